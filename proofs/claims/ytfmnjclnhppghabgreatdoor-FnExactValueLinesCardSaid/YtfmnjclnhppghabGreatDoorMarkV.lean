/- Contracts of the laws' marks of values (markValue, markValueS, heldValue, heldValueS). -/
import Derived.Test.YtfmnjclnhppghabGreatDoorValSz
import Derived.Deep.CutRange
namespace Go.Proofs.YtfmnjclnhppghabGreatDoor
open Go Go.RowKit
theorem mark_tree (b1 : List Nat) (a : Option Addr) (bs : List UInt8) (cap k : Nat) (w : World) (hn : bs.length ≤ 1099511627776) (hk : k ≤ 1099511627776) (h : BytT b1 a bs w) :
    Calls Tryz.prog 32 #[.slice a bs.length cap, .int .i64 (k : Int)] w fun e w' => e = .returned (.int .i64 ((k + bs.length : Nat) : Int)) ∧ BytT b1 a (marks k bs.length) w' ∧ Only b1 w w' := by
  rcases h with ⟨rfl, rfl⟩ | ⟨⟨b, off, rfl, rfl, hc⟩, hne⟩
  · refine (mark_none a cap k w).mono ?_
    rintro e w' ⟨rfl, rfl⟩
    exact ⟨rfl, .inl ⟨rfl, rfl⟩, Only.refl _ _⟩
  · refine (mark_some b off bs.length cap k w hn hk ⟨grown_refl w b, fun j hj => ⟨⟨_, (hc j hj).1, fun h => by omega⟩, (hc j hj).2⟩⟩).mono ?_
    rintro e w' ⟨rfl, hg, hm⟩
    refine ⟨rfl, .inr ⟨⟨b, off, rfl, rfl, fun j hj => ?_⟩, fun e => hne (List.eq_nil_of_length_eq_zero (by rw [← marks_length k bs.length, e]; rfl))⟩, Only.of_grown hg (by simp)⟩
    have hjn : j < bs.length := by rw [marks_length] at hj; exact hj
    obtain ⟨⟨x, hx, hx'⟩, hf⟩ := hm j hjn
    refine ⟨?_, hf⟩
    rw [hx, hx' hjn, marks_at, UInt8.toNat_ofNat']
theorem OwnL.keep {n : Nat} {b0 : List Nat} {bls : List (List Nat)} {a : Option Addr} {vs : List ValueV} {w w' : World} {bx : List Nat} (h : OwnL n b0 bls a vs w) (hg : Only bx w w') (hn : ∀ x ∈ b0 ++ bls.flatten, x ∉ bx) : OwnL n b0 bls a vs w' := by
  obtain ⟨h0, hl, hr⟩ := h
  refine ⟨h0, hl, fun j hj hj' => ?_⟩
  obtain ⟨b, off, cs', ha, hb0, ho, hc⟩ := hr j hj hj'
  exact ⟨b, off, cs', ha, hb0, ho.keep hg fun q hq => hn q (List.mem_append_right _ (List.mem_flatten.2 ⟨_, List.getElem_mem hj', hq⟩)), fun i u hu => hg.cell (hn b (by simp [hb0])) (hc i u hu)⟩
/-- One item has turned: its number, and what lies in its own blocks. -/
theorem OwnL.turn {n : Nat} {b0 : List Nat} {bls : List (List Nat)} {b off : Nat} {L : List ValueV} {w w3 : World} {j : Nat} {v' : ValueV} {u : Value} {cs : List Value} (h : OwnL n b0 bls (some ⟨b, off, none⟩) L w) (hnd : (b0 ++ bls.flatten).Nodup) (hj : j < L.length) (hj' : j < bls.length)
    (hcs : cs.length = 3) (hc : ∀ i x, cs[i]? = some x → w.cell? ⟨b, off + j * 3 + i, none⟩ = some x ∧ w.frozen? ⟨b, off + j * 3 + i, none⟩ = false) (hg : Only bls[j] (w.setCell ⟨b, off + j * 3, none⟩ u) w3) (hnew : OwnT n bls[j] v' (cs.set 0 u) w3) : OwnL n b0 bls (some ⟨b, off, none⟩) (L.set j v') w3 := by
  obtain ⟨h0, hl, hr⟩ := h
  have hb0 : b0 = [b] := by
    obtain ⟨b', off', cs', e, e2, _⟩ := hr j hj hj'
    injection e with e
    injection e with e
    rw [e2, ← e]
  subst hb0
  have hsep := (List.nodup_append.1 hnd).2
  have hbn : ∀ i (hi : i < bls.length), b ∉ bls[i] := fun i hi e => hsep.2 b (by simp) b (List.mem_flatten.2 ⟨_, List.getElem_mem hi, e⟩) rfl
  have hdis : ∀ i (hi : i < bls.length), i ≠ j → ∀ x ∈ bls[i], x ∉ bls[j] := fun i hi hne x hx hx2 => by
    have h2 := (List.pairwise_flatten.1 hsep.1).2
    rcases Nat.lt_or_gt_of_ne hne with hlt | hlt
    · exact List.pairwise_iff_getElem.1 h2 i j hi hj' hlt x hx x hx2 rfl
    · exact List.pairwise_iff_getElem.1 h2 j i hj' hi hlt x hx2 x hx rfl
  have h1 : Only [b] w (w.setCell ⟨b, off + j * 3, none⟩ u) := Only.set (by simp)
  have hcell : ∀ o x, o ≠ off + j * 3 → w.cell? ⟨b, o, none⟩ = some x ∧ w.frozen? ⟨b, o, none⟩ = false → w3.cell? ⟨b, o, none⟩ = some x ∧ w3.frozen? ⟨b, o, none⟩ = false := fun o x ho hx =>
    hg.cell (hbn j hj') ⟨(World.cell?_setCell_other _ _ _ _ (fun he => ho (by have := congrArg Addr.off he; simpa using this.symm))).trans hx.1, by simpa using hx.2⟩
  refine ⟨fun e => by have h1 : (L.set j v').length = 0 := (by rw [e]; rfl); rw [List.length_set] at h1; omega, by simpa using hl, fun i hi hi' => ?_⟩
  have hi2 : i < L.length := by simpa using hi
  by_cases hij : i = j
  · subst hij
    refine ⟨b, off, cs.set 0 u, rfl, rfl, by simpa using hnew, fun q x hx => ?_⟩
    by_cases hq : q = 0
    · subst hq
      have hx2 : u = x := by
        rw [List.getElem?_set_self (by omega)] at hx
        exact Option.some.inj hx
      subst hx2
      obtain ⟨c0, f0⟩ := hc 0 cs[0] (by rw [List.getElem?_eq_getElem (by omega)])
      simp only [Nat.add_zero] at c0 f0 ⊢
      exact hg.cell (hbn i hj') ⟨World.cell?_setCell_same _ _ _ c0, by simpa using f0⟩
    · rw [List.getElem?_set_ne (by omega)] at hx
      exact hcell _ x (by omega) (hc q x hx)
  · obtain ⟨b', off', cs', e, _, ho, hc'⟩ := hr i hi2 hi'
    injection e with e
    injection e with e1 e2 _
    subst e1 e2
    refine ⟨b, off, cs', rfl, rfl, ?_, fun q x hx => hcell _ x ?_ (hc' q x hx)⟩
    · rw [List.getElem_set_ne (by omega)]
      exact (ho.keep h1 fun x hx e => by simp at e; subst e; exact hbn i hi' hx).keep hg fun x hx => hdis i hi' hij x hx
    · have hq : q < 3 := by
        have := ho.length
        rcases Nat.lt_or_ge q 3 with h | h
        · exact h
        · rw [List.getElem?_eq_none (by omega)] at hx; cases hx
      omega
/-- What markValueS promises of items of a height. -/
def MarkLC (n : Nat) : Prop := ∀ (ai : Option Addr) (vs : List ValueV) (ci : Nat) (b0 : List Nat) (bls : List (List Nat)) (k : Nat) (w : World), OwnL n b0 bls ai vs w → (b0 ++ bls.flatten).Nodup → vs.length + sizL vs ≤ 1048576 → k + widL vs ≤ 1099511627776 →
  Calls Tryz.prog 33 #[.slice ai vs.length ci, .int .i64 (k : Int)] w fun e w' => e = .returned (.int .i64 ((k + widL vs : Nat) : Int)) ∧ OwnL n b0 bls ai (markL k vs) w' ∧ Only (b0 ++ bls.flatten) w w'
set_option maxRecDepth 100000 in
set_option maxHeartbeats 4000000 in
theorem mark_step (n : Nat) (ih : ∀ m, n = m + 1 → MarkLC m) : MarkLC n := by
  intro ai vs ci b0 bls k w hown hnd hs hk
  have HOW := Lib.hid hown
  have HND := Lib.hid hnd
  have HIH := Lib.hid ih
  have HS := Lib.hid hs
  have HK := Lib.hid hk
  have HON := Lib.hid (Only.refl (b0 ++ bls.flatten) w)
  have hl : vs.length ≤ 1048576 := by omega
  clear hown hnd ih hs hk
  go_enter Tryz.func33, Tryz.ntmps33
  go_wp2
  go_loopw [1, 5] (fun q i W => ∃ (j kk : Nat) (L : List ValueV), j ≤ vs.length ∧ i = .int .i64 j ∧ q = .int .i64 kk ∧ kk ≤ 1099511627776 ∧ Hid (kk = k + widL (vs.take j)) ∧ Hid (MixV k vs j L) ∧ Hid (OwnL n b0 bls ai L W) ∧ Hid (Only (b0 ++ bls.flatten) w W)) (fun _ i _ => vs.length - (intOf i).toNat)
  case atStart => exact ⟨0, k, vs, Nat.zero_le _, rfl, rfl, by have := HK.out; omega, by show k = _; simp [widL], MixV.start k vs, HOW, HON⟩
  case round =>
    clear HOW HON
    obtain ⟨j, kk, L, hjl, rfl, rfl, hkk, hke, hmx, how, hon⟩ := hrel
    have j0 : (0 : Int) ≤ (j : Int) := by omega
    by_cases hlt : j < vs.length
    · have j1 : (j : Int) < (vs.length : Int) := by omega
      have hjL : j < L.length := by have := hmx.out.1; omega
      have hjb : j < bls.length := by have := how.out.2.1; omega
      obtain ⟨b, off, cs', rfl, hb0, hot, hc⟩ := how.out.2.2 j hjL hjb
      have HEQ := Lib.hid (hmx.out.at hlt hjL)
      have HCH := Lib.hid hc
      have HL3 := Lib.hid hot.length
      obtain ⟨n, rfl⟩ : ∃ m, n = m + 1 := by
        cases n with
        | zero => exact hot.elim
        | succ m => exact ⟨m, rfl⟩
      have HIM := Lib.hid (HIH.out n rfl)
      obtain ⟨ab, cb, a2, c2, b1, b2, bl2, rfl, hcap, hbt, hbl, hnd2, h02, hl2, hr2⟩ := hot
      have hn2 := hnd2
      rw [hbl] at hn2
      have HBL := Lib.hid hbl
      have HN2 := Lib.hid hn2
      have HCAP := Lib.hid hcap
      have HBT := Lib.hid hbt
      have HOL : Hid (OwnL n b2 bl2 a2 L[j].items wr) := ⟨h02, hl2, hr2⟩
      obtain ⟨c0, f0⟩ := hc 0 _ rfl
      simp only [Nat.add_zero] at c0 f0
      have hsz : Hid (L[j].bytes.length + (L[j].items.length + sizL L[j].items) ≤ 1048576) := by show _ ≤ _; rw [HEQ.out, ← sizV_eq]; have := sizL_at hlt; have := HS.out; omega
      have hwn : Hid (widL (vs.take (j + 1)) = widL (vs.take j) + (1 + (L[j].bytes.length + widL L[j].items))) := by show _ = _; rw [HEQ.out, ← widV_eq]; exact widL_next vs j hlt
      have hwt : Hid (widL (vs.take (j + 1)) ≤ widL vs) := widL_take_le vs (j + 1)
      obtain ⟨v, hv⟩ : ∃ v, v = L[j] := ⟨_, rfl⟩
      rw [← hv] at c0 hsz hwn HOL HBT HEQ HCH HL3 HCAP
      have hbl3 : v.bytes.length ≤ 1048576 := by have := hsz.out; omega
      have hkk1 : kk + 1 + v.bytes.length + widL v.items ≤ 1099511627776 := by have h1 := hke.out; have h2 := hwn.out; have h3 := hwt.out; have h4 := HK.out; omega
      obtain ⟨nk, hnk⟩ : ∃ nk, nk = kk + 1 := ⟨_, rfl⟩
      have hkc : (kk : Int) + 1 = (nk : Int) := by omega
      have hkk2 : nk + v.bytes.length + widL v.items ≤ 1099511627776 := by omega
      have HNK := Lib.hid hnk
      clear hnk hkk1
      have HV := Lib.hid hv
      clear hc hcap hbt hbl hnd2 h02 hl2 hr2 hn2 hv
      go_upto_region 6 with fail
      obtain ⟨w1, hw1⟩ : ∃ w1, w1 = wr.setCell ⟨b, off + j * 3, none⟩ (.int .i64 (kk : Int)) := ⟨_, rfl⟩
      rw [← hw1]
      have hb0n : b ∉ bls[j] := fun e => (List.nodup_append.1 HND.out).2.2 b (by simp [hb0]) b (List.mem_flatten.2 ⟨_, List.getElem_mem hjb, e⟩) rfl
      have hon1 : Only [b] wr w1 := by rw [hw1]; exact Only.set (by simp)
      have hnb : ∀ x ∈ b1 ++ (b2 ++ bl2.flatten), x ∉ [b] := fun x hx e => by simp at e; subst e; exact hb0n (by rw [HBL.out]; exact hx)
      have HBT1 := Lib.hid (HBT.out.keep hon1 fun x hx => hnb x (by simp [hx]))
      have HOL1 : Hid (OwnL n b2 bl2 a2 v.items w1) := HOL.out.keep hon1 fun x hx => hnb x (List.mem_append_right _ hx)
      have h1 := HCH.out 1 _ rfl
      have h2 := HCH.out 2 _ rfl
      have g1 : w1.cell? ⟨b, off + j * 3 + 1, none⟩ = some (.slice ab v.bytes.length cb) ∧ w1.frozen? ⟨b, off + j * 3 + 1, none⟩ = false := by rw [hw1]; exact ⟨(World.cell?_setCell_other _ _ _ _ (fun he => by have := congrArg Addr.off he; simp at this)).trans h1.1, by simpa using h1.2⟩
      have g2 : w1.cell? ⟨b, off + j * 3 + 2, none⟩ = some (.slice a2 v.items.length c2) ∧ w1.frozen? ⟨b, off + j * 3 + 2, none⟩ = false := by rw [hw1]; exact ⟨(World.cell?_setCell_other _ _ _ _ (fun he => by have := congrArg Addr.off he; simp at this)).trans h2.1, by simpa using h2.2⟩
      have e1 := g1.1
      have HG2 := Lib.hid g2
      have HB1 : Hid (b ∉ b1) := fun e => hb0n (by rw [HBL.out]; simp [e])
      have HW1 := Lib.hid hw1
      clear g1 g2 h1 h2 hnb hon1 HBT HOL c0 f0 hw1
      go_wp2_with fail
      refine (mark_tree b1 ab v.bytes cb nk w1 (by omega) (by omega) HBT1.out).mono ?_
      rintro e w2 ⟨rfl, hbt2, hon2⟩
      have HBT2 := Lib.hid hbt2
      have HOL2 : Hid (OwnL n b2 bl2 a2 v.items w2) := HOL1.out.keep hon2 fun x hx e => (List.nodup_append.1 HN2.out).2.2 x e x hx rfl
      have e2 := (hon2.cell HB1.out HG2.out).1
      have HO2 := Lib.hid hon2
      clear hbt2 hon2 e1 HG2 HBT1 HOL1
      obtain ⟨k2, hk2⟩ : ∃ k2, k2 = nk + v.bytes.length := ⟨_, rfl⟩
      rw [← hk2]
      have HK2 := Lib.hid hk2
      have hk2l : k2 + widL v.items ≤ 1099511627776 := by omega
      clear hk2
      go_wp2_with fail
      refine (HIM.out a2 v.items c2 b2 bl2 k2 w2 HOL2.out (List.nodup_append.1 HN2.out).2.1 (by have := hsz.out; omega) hk2l).mono ?_
      rintro e w3 ⟨rfl, hol3, hon3⟩
      have hbt3 := HBT2.out.keep hon3 fun x hx e => (List.nodup_append.1 HN2.out).2.2 x hx x e rfl
      have hall : Only (b1 ++ (b2 ++ bl2.flatten)) w1 w3 := (HO2.out.mono fun x hx => by simp [hx]).trans (hon3.mono fun x hx => List.mem_append_right _ hx)
      have hitem : markI kk v = .mk (kk : Int) (marks nk v.bytes.length) (markL k2 v.items) := by
        unfold markI
        rw [markV_eq, ← HNK.out, HK2.out]
        rfl
      have hnew : OwnT (n + 1) bls[j] (markI kk v) ([.int .i64 v.number, .slice ab v.bytes.length cb, .slice a2 v.items.length c2].set 0 (.int .i64 (kk : Int))) w3 := by
        rw [hitem]
        refine ⟨ab, cb, a2, c2, b1, b2, bl2, ?_, ?_, hbt3, HBL.out, by rw [HBL.out]; exact HN2.out, ?_, ?_, hol3.2.2⟩
        · show [_, _, _] = [_, _, _]
          simp only [ValueV.number, ValueV.bytes, ValueV.items, marks_length, markL_length]
        · simp only [ValueV.bytes, marks_length]; exact HCAP.out
        · exact fun e => hol3.1 e
        · exact hol3.2.1
      rw [HW1.out, ← HBL.out] at hall
      have htn := how.out.turn (u := .int .i64 (kk : Int)) HND.out hjL hjb (cs := [.int .i64 v.number, .slice ab v.bytes.length cb, .slice a2 v.items.length c2]) rfl HCH.out hall hnew
      have HTN : Hid (OwnL (n + 1) b0 bls (some ⟨b, off, none⟩) (L.set j (markI kk v)) w3) := htn
      have HMX : Hid (MixV k vs (j + 1) (L.set j (markI kk v))) := by show MixV _ _ _ _; rw [HEQ.out, hke.out]; exact hmx.out.next hlt
      have HON3 : Hid (Only (b0 ++ bls.flatten) w w3) := hon.out.trans ((Only.set (by simp [hb0])).trans (hall.mono fun x hx => List.mem_append_right _ (List.mem_flatten.2 ⟨_, List.getElem_mem hjb, hx⟩)))
      obtain ⟨k3, hk3⟩ : ∃ k3, k3 = k2 + widL v.items := ⟨_, rfl⟩
      rw [← hk3]
      have hk3l : k3 ≤ 1099511627776 := by omega
      have HKE : Hid (k3 = k + widL (vs.take (j + 1))) := by show _ = _; have h1 := hke.out; have h2 := hwn.out; have h3 := HK2.out; have h4 := HNK.out; omega
      clear hol3 hon3 hbt3 hall hitem hnew htn hk3 e2 how hmx hon HEQ HV HCH HOL2 HBT2 HO2
      go_wp2
      go_roundw
      case rel => exact ⟨j + 1, k3, L.set j (markI kk v), by omega, by go_num, rfl, hk3l, HKE, HMX, HTN, HON3⟩
      case measure => simp [intOf]; omega
    · have j1 : ¬ (j : Int) < (vs.length : Int) := by omega
      obtain rfl : j = vs.length := by omega
      have hend := Lib.hid hmx.out.end
      have hkf : Hid (kk = k + widL vs) := by show _ = _; have := hke.out; rw [List.take_length] at this; exact this
      go_wp2
      go_ret
      exact ⟨ret_int (by have := hkf.out; omega), by rw [← hend.out]; exact how.out, hon.out⟩
theorem mark_all : ∀ n, MarkLC n
  | 0 => mark_step 0 fun m h => by cases h
  | n + 1 => mark_step (n + 1) fun m h => by injection h with h; subst h; exact mark_all n
set_option maxRecDepth 100000 in
set_option maxHeartbeats 4000000 in
/-- markValue. -/
theorem mark_value (n : Nat) (bl : List Nat) (v : ValueV) (cs : List Value) (k : Nat) (w : World) (h : OwnT n bl v cs w) (hs : sizV v ≤ 1048576) (hk : k + widV v ≤ 1099511627776) :
    Calls Tryz.prog 14 #[.agg cs.toArray, .int .i64 (k : Int)] w fun e w' => e = .returned (.int .i64 ((k + widV v : Nat) : Int)) ∧ OwnT n bl (markV k v) cs w' ∧ Only bl w w' := by
  cases n with
  | zero => exact h.elim
  | succ n =>
    obtain ⟨ab, cb, a2, c2, b1, b2, bl2, rfl, hcap, hbt, rfl, hnd, h02, hl2, hr2⟩ := h
    rw [sizV_eq] at hs
    rw [widV_eq] at hk
    obtain ⟨w0, hw0⟩ : ∃ w0, w0 = w.alloc (.cells #[.int .i64 v.number, .slice ab v.bytes.length cb, .slice a2 v.items.length c2] 39) := ⟨_, rfl⟩
    have hB : Below w.heap.size w w0 := by subst hw0; exact (Below.refl _ _).alloc (Nat.le_refl _) _
    have hX : CellsAt w.heap.size [.int .i64 v.number, .slice ab v.bytes.length cb, .slice a2 v.items.length c2] w0 := by subst hw0; exact CellsAt.new w _ _
    have hlt : ∀ x ∈ b1 ++ (b2 ++ bl2.flatten), x < w.heap.size := (show OwnT (n + 1) _ v _ w from ⟨ab, cb, a2, c2, b1, b2, bl2, rfl, hcap, hbt, rfl, hnd, h02, hl2, hr2⟩).lt
    have HBT := Lib.hid (hbt.keep (Only.of_below [] hB) fun x _ e => by cases e)
    have hol0 : OwnL n b2 bl2 a2 v.items w := ⟨h02, hl2, hr2⟩
    have HOL : Hid (OwnL n b2 bl2 a2 v.items w0) := hol0.keep (Only.of_below [] hB) fun x _ e => by cases e
    have HB := Lib.hid hB
    have HND := Lib.hid hnd
    have HCAP := Lib.hid hcap
    have HLT := Lib.hid hlt
    have HX := Lib.hid hX
    have hbl3 : v.bytes.length ≤ 1048576 := by omega
    have hsi : Hid (v.items.length + sizL v.items ≤ 1048576) := by show _ ≤ _; omega
    have hwd : Hid (widV v = v.bytes.length + widL v.items) := widV_eq v
    have hW := Lib.hid hw0
    clear hB hX hbt hnd hcap hlt hol0 h02 hl2 hr2 hs hw0
    go_enter Tryz.func14, Tryz.ntmps14
    go_upto_region 1 with fail
    rw [← hW.out]
    clear hW
    have x1 := (HX.out 1 _ rfl).1
    go_wp2_with fail
    refine (mark_tree b1 ab v.bytes cb k w0 (by omega) (by omega) HBT.out).mono ?_
    rintro e w2 ⟨rfl, hbt2, hon2⟩
    have HBT2 := Lib.hid hbt2
    have HOL2 : Hid (OwnL n b2 bl2 a2 v.items w2) := HOL.out.keep hon2 fun x hx e => (List.nodup_append.1 HND.out).2.2 x e x hx rfl
    have x2 := (hon2.cell (fun e => by have := HLT.out _ (List.mem_append_left _ e); omega) (HX.out 2 _ rfl)).1
    have HO2 := Lib.hid hon2
    clear hbt2 hon2 x1 HBT HOL
    obtain ⟨k2, hk2⟩ : ∃ k2, k2 = k + v.bytes.length := ⟨_, rfl⟩
    rw [← hk2]
    have HK2 := Lib.hid hk2
    have hk2l : k2 + widL v.items ≤ 1099511627776 := by omega
    clear hk2
    go_wp2_with fail
    refine (mark_all n a2 v.items c2 b2 bl2 k2 w2 HOL2.out (List.nodup_append.1 HND.out).2.1 hsi.out hk2l).mono ?_
    rintro e w3 ⟨rfl, hol3, hon3⟩
    have hbt3 := HBT2.out.keep hon3 fun x hx e => (List.nodup_append.1 HND.out).2.2 x hx x e rfl
    have HALL : Hid (Only (b1 ++ (b2 ++ bl2.flatten)) w w3) := (Only.of_below _ HB.out).trans ((HO2.out.mono fun x hx => by simp [hx]).trans (hon3.mono fun x hx => List.mem_append_right _ hx))
    have HNEW : Hid (OwnT (n + 1) (b1 ++ (b2 ++ bl2.flatten)) (markV k v) [.int .i64 v.number, .slice ab v.bytes.length cb, .slice a2 v.items.length c2] w3) := by
      show OwnT _ _ _ _ _
      rw [markV_eq, ← HK2.out]
      refine ⟨ab, cb, a2, c2, b1, b2, bl2, ?_, ?_, hbt3, rfl, HND.out, fun e => hol3.1 e, hol3.2.1, hol3.2.2⟩
      · simp only [ValueV.number, ValueV.bytes, ValueV.items, marks_length, markL_length]
      · simp only [ValueV.bytes, marks_length]; exact HCAP.out
    have HKF : Hid (k2 + widL v.items = k + widV v) := by show _ = _; rw [hwd.out, HK2.out]; omega
    clear hol3 hon3 hbt3 HBT2 HOL2 HO2 x2
    go_wp2
    go_ret
    exact ⟨ret_int (by have := HKF.out; omega), HNEW.out, HALL.out⟩
end Go.Proofs.YtfmnjclnhppghabGreatDoor
