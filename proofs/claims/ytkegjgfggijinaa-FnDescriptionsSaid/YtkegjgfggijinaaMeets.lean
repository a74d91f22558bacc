/- The contract of the program's meetsKind. -/
import Derived.Test.YtkegjgfggijinaaValidI2
namespace Go.Proofs.Ytkegjgfggijinaa
open Go Go.RowKit
section
variable (a : Option Addr) (rs : List RuleV) (cap : Nat) (r : RuleV) (cs : List Value) (w : World)
set_option maxRecDepth 100000 in
set_option maxHeartbeats 2000000 in
theorem meets_1 (h : IsRule r cs w) (hk : r.kind = 1) :
    Calls Try.prog 31 #[.agg #[.slice a rs.length cap], .agg cs.toArray] w fun e w' => e = .returned (.bool (meetsB rs r)) ∧ Below w.heap.size w w' := by
  obtain ⟨a4, c4, a5, c5, a6, c6, a7, c7, rfl, -⟩ := h
  obtain ⟨nm, kd, sz, lt, bs, ns, ts, ks⟩ := r
  dsimp only at hk
  subst hk
  have hm : Hid (meetsB rs ⟨nm, 1, sz, lt, bs, ns, ts, ks⟩ = (decide (1 ≤ sz ∧ sz ≤ 4) && (!lt || decide (1 < sz)))) := by
    show _ = _
    simp [meetsB]
  have HB : ∀ o p, Hid (Below w.heap.size w ((w.alloc o).alloc p)) := fun o p => ((Below.refl _ _).alloc (Nat.le_refl _) _).alloc (by simp) _
  by_cases h1 : 1 ≤ sz ∧ sz ≤ 4
  case neg =>
    have hd := decide_eq_false h1
    rw [hd] at hm
    go_enter Try.func31, Try.ntmps31
    go_wp2_with fail
    refine (inI_any _ _ _ false _ hd).mono ?_
    rintro e w1 ⟨rfl, rfl⟩
    go_wp2
    go_ret
    exact ⟨ret_bool (by rw [hm.out]; rfl), (HB _ _).out⟩
  have hd := decide_eq_true h1
  rw [hd] at hm
  cases lt with
  | false =>
    go_enter Try.func31, Try.ntmps31
    go_wp2_with fail
    refine (inI_any _ _ _ true _ hd).mono ?_
    rintro e w1 ⟨rfl, rfl⟩
    go_wp2
    go_ret
    exact ⟨ret_bool (by rw [hm.out]; rfl), (HB _ _).out⟩
  | true =>
    by_cases h2 : 1 < sz
    · have hd2 := decide_eq_true h2
      rw [hd2] at hm
      go_enter Try.func31, Try.ntmps31
      go_wp2_with fail
      refine (inI_any _ _ _ true _ hd).mono ?_
      rintro e w1 ⟨rfl, rfl⟩
      go_wp2
      go_ret
      exact ⟨ret_bool (by rw [hm.out]; rfl), (HB _ _).out⟩
    · have hd2 := decide_eq_false h2
      rw [hd2] at hm
      go_enter Try.func31, Try.ntmps31
      go_wp2_with fail
      refine (inI_any _ _ _ true _ hd).mono ?_
      rintro e w1 ⟨rfl, rfl⟩
      go_wp2
      go_ret
      exact ⟨ret_bool (by rw [hm.out]; rfl), (HB _ _).out⟩
set_option maxRecDepth 100000 in
set_option maxHeartbeats 2000000 in
theorem meets_2 (hs : Short r) (h : IsRule r cs w) (hk : r.kind = 2) :
    Calls Try.prog 31 #[.agg #[.slice a rs.length cap], .agg cs.toArray] w fun e w' => e = .returned (.bool (meetsB rs r)) ∧ Below w.heap.size w w' := by
  obtain ⟨a4, c4, a5, c5, a6, c6, a7, c7, rfl, -⟩ := h
  have s4 := hs.1
  clear hs
  obtain ⟨nm, kd, sz, lt, bs, ns, ts, ks⟩ := r
  dsimp only at hk s4
  subst hk
  have hm : Hid (meetsB rs ⟨nm, 2, sz, lt, bs, ns, ts, ks⟩ = decide (1 ≤ (bs.length : Int) ∧ (bs.length : Int) ≤ 16)) := by
    show _ = _
    simp [meetsB]
  have HB : ∀ o p, Hid (Below w.heap.size w ((w.alloc o).alloc p)) := fun o p => ((Below.refl _ _).alloc (Nat.le_refl _) _).alloc (by simp) _
  go_enter Try.func31, Try.ntmps31
  go_wp2_with fail
  refine (inI_any _ _ _ _ _ hm.out.symm).mono ?_
  rintro e w1 ⟨rfl, rfl⟩
  go_wp2
  go_ret
  exact ⟨rfl, (HB _ _).out⟩
set_option maxRecDepth 100000 in
set_option maxHeartbeats 2000000 in
theorem meets_3 (h : IsRule r cs w) (hk : r.kind = 3) :
    Calls Try.prog 31 #[.agg #[.slice a rs.length cap], .agg cs.toArray] w fun e w' => e = .returned (.bool (meetsB rs r)) ∧ Below w.heap.size w w' := by
  obtain ⟨a4, c4, a5, c5, a6, c6, a7, c7, rfl, -⟩ := h
  obtain ⟨nm, kd, sz, lt, bs, ns, ts, ks⟩ := r
  dsimp only at hk
  subst hk
  have hm : Hid (meetsB rs ⟨nm, 3, sz, lt, bs, ns, ts, ks⟩ = decide (1 ≤ sz ∧ sz ≤ 64)) := by
    show _ = _
    simp [meetsB]
  have HB : ∀ o p, Hid (Below w.heap.size w ((w.alloc o).alloc p)) := fun o p => ((Below.refl _ _).alloc (Nat.le_refl _) _).alloc (by simp) _
  go_enter Try.func31, Try.ntmps31
  go_wp2_with fail
  refine (inI_any _ _ _ _ _ hm.out.symm).mono ?_
  rintro e w1 ⟨rfl, rfl⟩
  go_wp2
  go_ret
  exact ⟨rfl, (HB _ _).out⟩
set_option maxRecDepth 100000 in
set_option maxHeartbeats 2000000 in
theorem meets_4 (hs : Short r) (hrd : RdR a rs w) (h : IsRule r cs w) (hin : ∀ x ∈ r.kids, 0 ≤ x ∧ x < (rs.length : Int)) (hk : r.kind = 4) :
    Calls Try.prog 31 #[.agg #[.slice a rs.length cap], .agg cs.toArray] w fun e w' => e = .returned (.bool (meetsB rs r)) ∧ Below w.heap.size w w' := by
  have hm : Hid (meetsB rs r = (decide (r.kids.length = 1) && kindAtB rs (r.kids.headD 0))) := by
    show _ = _
    simp [meetsB, hk]
  have HB : ∀ o p, Hid (Below w.heap.size w ((w.alloc o).alloc p)) := fun o p => ((Below.refl _ _).alloc (Nat.le_refl _) _).alloc (by simp) _
  have s7 := hs.2.2.2
  by_cases h1 : r.kids.length = 1
  · have HQ : ∀ o p, Hid (Calls Try.prog 52 #[.agg #[.slice a rs.length cap], .agg cs.toArray] ((w.alloc o).alloc p) fun e w' => e = .returned (.bool (kindAtB rs (r.kids.headD 0))) ∧ Below ((w.alloc o).alloc p).heap.size ((w.alloc o).alloc p) w') := fun o p => starts_impl a rs cap r cs _ (hrd.below (HB o p).out) (h.below (HB o p).out) (by omega) (hin _ (by rw [headD_at (by omega)]; exact List.getElem_mem _))
    have e1 : ((r.kids.length : Int) == 1) = true := by simp; omega
    rw [decide_eq_true h1, Bool.true_and] at hm
    clear hs hrd hin h1
    obtain ⟨a4, c4, a5, c5, a6, c6, a7, c7, rfl, -⟩ := h
    generalize kindAtB rs (r.kids.headD 0) = res at *
    rw [hk] at *
    clear hk
    go_enter Try.func31, Try.ntmps31
    go_wp2_with fail
    refine (HQ _ _).out.mono ?_
    rintro e w1 ⟨rfl, hb1⟩
    have HB1 := Lib.hid ((HB _ _).out.trans (hb1.mono (HB _ _).out.size))
    clear hb1
    go_wp2
    go_ret
    exact ⟨ret_bool hm.out.symm, HB1.out⟩
  · have e1 : ((r.kids.length : Int) == 1) = false := by simp; omega
    rw [decide_eq_false h1, Bool.false_and] at hm
    clear hs hrd hin h1
    obtain ⟨a4, c4, a5, c5, a6, c6, a7, c7, rfl, -⟩ := h
    rw [hk] at *
    clear hk
    go_enter Try.func31, Try.ntmps31
    go_wp2
    go_ret
    exact ⟨ret_bool hm.out.symm, (HB _ _).out⟩
set_option maxRecDepth 100000 in
set_option maxHeartbeats 2000000 in
theorem meets_5 (hs : Short r) (hrd : RdR a rs w) (h : IsRule r cs w) (hin : ∀ x ∈ r.kids, 0 ≤ x ∧ x < (rs.length : Int)) (hk : r.kind = 5) :
    Calls Try.prog 31 #[.agg #[.slice a rs.length cap], .agg cs.toArray] w fun e w' => e = .returned (.bool (meetsB rs r)) ∧ Below w.heap.size w w' := by
  have hm : Hid (meetsB rs r = (decide (r.kids.length = 2) && kindAtB rs (r.kids.headD 0))) := by
    show _ = _
    simp [meetsB, hk]
  have HB : ∀ o p, Hid (Below w.heap.size w ((w.alloc o).alloc p)) := fun o p => ((Below.refl _ _).alloc (Nat.le_refl _) _).alloc (by simp) _
  have s7 := hs.2.2.2
  by_cases h1 : r.kids.length = 2
  · have HQ : ∀ o p, Hid (Calls Try.prog 52 #[.agg #[.slice a rs.length cap], .agg cs.toArray] ((w.alloc o).alloc p) fun e w' => e = .returned (.bool (kindAtB rs (r.kids.headD 0))) ∧ Below ((w.alloc o).alloc p).heap.size ((w.alloc o).alloc p) w') := fun o p => starts_impl a rs cap r cs _ (hrd.below (HB o p).out) (h.below (HB o p).out) (by omega) (hin _ (by rw [headD_at (by omega)]; exact List.getElem_mem _))
    have e1 : ((r.kids.length : Int) == 2) = true := by simp; omega
    rw [decide_eq_true h1, Bool.true_and] at hm
    clear hs hrd hin h1
    obtain ⟨a4, c4, a5, c5, a6, c6, a7, c7, rfl, -⟩ := h
    generalize kindAtB rs (r.kids.headD 0) = res at *
    rw [hk] at *
    clear hk
    go_enter Try.func31, Try.ntmps31
    go_wp2_with fail
    refine (HQ _ _).out.mono ?_
    rintro e w1 ⟨rfl, hb1⟩
    have HB1 := Lib.hid ((HB _ _).out.trans (hb1.mono (HB _ _).out.size))
    clear hb1
    go_wp2
    go_ret
    exact ⟨ret_bool hm.out.symm, HB1.out⟩
  · have e1 : ((r.kids.length : Int) == 2) = false := by simp; omega
    rw [decide_eq_false h1, Bool.false_and] at hm
    clear hs hrd hin h1
    obtain ⟨a4, c4, a5, c5, a6, c6, a7, c7, rfl, -⟩ := h
    rw [hk] at *
    clear hk
    go_enter Try.func31, Try.ntmps31
    go_wp2
    go_ret
    exact ⟨ret_bool hm.out.symm, (HB _ _).out⟩
set_option maxRecDepth 100000 in
set_option maxHeartbeats 2000000 in
theorem meets_6 (hs : Short r) (hp : Spelt r) (hcap : Cap5 cs) (h : IsRule r cs w) (hk : r.kind = 6) :
    Calls Try.prog 31 #[.agg #[.slice a rs.length cap], .agg cs.toArray] w fun e w' => e = .returned (.bool (meetsB rs r)) ∧ Below w.heap.size w w' := by
  have hm : Hid (meetsB rs r = seqB r) := by
    show _ = _
    simp [meetsB, hk, seqB]
  have HB : ∀ o p, Hid (Below w.heap.size w ((w.alloc o).alloc p)) := fun o p => ((Below.refl _ _).alloc (Nat.le_refl _) _).alloc (by simp) _
  have HQ : ∀ o p, Hid (Calls Try.prog 53 #[.agg cs.toArray] ((w.alloc o).alloc p) fun e w' => e = .returned (.bool (seqB r)) ∧ Below ((w.alloc o).alloc p).heap.size ((w.alloc o).alloc p) w') := fun o p => seq_impl r cs _ hs hp hcap (h.below (HB o p).out)
  clear hs hp hcap
  obtain ⟨a4, c4, a5, c5, a6, c6, a7, c7, rfl, -⟩ := h
  generalize seqB r = res at *
  rw [hk] at *
  clear hk
  go_enter Try.func31, Try.ntmps31
  go_wp2_with fail
  refine (HQ _ _).out.mono ?_
  rintro e w1 ⟨rfl, hb1⟩
  have HB1 := Lib.hid ((HB _ _).out.trans (hb1.mono (HB _ _).out.size))
  clear hb1
  go_wp2
  go_ret
  exact ⟨ret_bool hm.out.symm, HB1.out⟩
set_option maxRecDepth 100000 in
set_option maxHeartbeats 2000000 in
theorem meets_7 (hl : rs.length ≤ 1048576) (hs : Short r) (hrd : RdR a rs w) (h : IsRule r cs w) (hk : r.kind = 7) :
    Calls Try.prog 31 #[.agg #[.slice a rs.length cap], .agg cs.toArray] w fun e w' => e = .returned (.bool (meetsB rs r)) ∧ Below w.heap.size w w' := by
  have hm : Hid (meetsB rs r = tagsB rs r) := by
    show _ = _
    simp [meetsB, hk]
  have HB : ∀ o p, Hid (Below w.heap.size w ((w.alloc o).alloc p)) := fun o p => ((Below.refl _ _).alloc (Nat.le_refl _) _).alloc (by simp) _
  have HQ : ∀ o p, Hid (Calls Try.prog 54 #[.agg #[.slice a rs.length cap], .agg cs.toArray] ((w.alloc o).alloc p) fun e w' => e = .returned (.bool (tagsB rs r)) ∧ Below ((w.alloc o).alloc p).heap.size ((w.alloc o).alloc p) w') := fun o p => choice_impl a rs cap r cs _ hl hs (hrd.below (HB o p).out) (h.below (HB o p).out)
  clear hs hrd
  obtain ⟨a4, c4, a5, c5, a6, c6, a7, c7, rfl, -⟩ := h
  generalize tagsB rs r = res at *
  rw [hk] at *
  clear hk
  go_enter Try.func31, Try.ntmps31
  go_wp2_with fail
  refine (HQ _ _).out.mono ?_
  rintro e w1 ⟨rfl, hb1⟩
  have HB1 := Lib.hid ((HB _ _).out.trans (hb1.mono (HB _ _).out.size))
  clear hb1
  go_wp2
  go_ret
  exact ⟨ret_bool hm.out.symm, HB1.out⟩
set_option maxRecDepth 100000 in
set_option maxHeartbeats 2000000 in
theorem meets_8 (hs : Short r) (h : IsRule r cs w) (hk : r.kind = 8) :
    Calls Try.prog 31 #[.agg #[.slice a rs.length cap], .agg cs.toArray] w fun e w' => e = .returned (.bool (meetsB rs r)) ∧ Below w.heap.size w w' := by
  have hm : Hid (meetsB rs r = decide (r.kids.length = 1)) := by
    show _ = _
    simp [meetsB, hk]
  have HB : ∀ o p, Hid (Below w.heap.size w ((w.alloc o).alloc p)) := fun o p => ((Below.refl _ _).alloc (Nat.le_refl _) _).alloc (by simp) _
  have s7 := hs.2.2.2
  obtain ⟨a4, c4, a5, c5, a6, c6, a7, c7, rfl, -⟩ := h
  clear hs
  rw [hk] at *
  clear hk
  by_cases h1 : r.kids.length = 1
  · have e1 : ((r.kids.length : Int) == 1) = true := by simp; omega
    rw [decide_eq_true h1] at hm
    clear h1
    go_enter Try.func31, Try.ntmps31
    go_wp2
    go_ret
    exact ⟨ret_bool hm.out.symm, (HB _ _).out⟩
  · have e1 : ((r.kids.length : Int) == 1) = false := by simp; omega
    rw [decide_eq_false h1] at hm
    clear h1
    go_enter Try.func31, Try.ntmps31
    go_wp2
    go_ret
    exact ⟨ret_bool hm.out.symm, (HB _ _).out⟩
set_option maxRecDepth 100000 in
set_option maxHeartbeats 2000000 in
theorem meets_9 (hs : Short r) (h : IsRule r cs w) (hk : r.kind = 9) :
    Calls Try.prog 31 #[.agg #[.slice a rs.length cap], .agg cs.toArray] w fun e w' => e = .returned (.bool (meetsB rs r)) ∧ Below w.heap.size w w' := by
  have hm : Hid (meetsB rs r = decide (r.kids.length = 1)) := by
    show _ = _
    simp [meetsB, hk]
  have HB : ∀ o p, Hid (Below w.heap.size w ((w.alloc o).alloc p)) := fun o p => ((Below.refl _ _).alloc (Nat.le_refl _) _).alloc (by simp) _
  have s7 := hs.2.2.2
  obtain ⟨a4, c4, a5, c5, a6, c6, a7, c7, rfl, -⟩ := h
  clear hs
  rw [hk] at *
  clear hk
  by_cases h1 : r.kids.length = 1
  · have e1 : ((r.kids.length : Int) == 1) = true := by simp; omega
    rw [decide_eq_true h1] at hm
    clear h1
    go_enter Try.func31, Try.ntmps31
    go_wp2
    go_ret
    exact ⟨ret_bool hm.out.symm, (HB _ _).out⟩
  · have e1 : ((r.kids.length : Int) == 1) = false := by simp; omega
    rw [decide_eq_false h1] at hm
    clear h1
    go_enter Try.func31, Try.ntmps31
    go_wp2
    go_ret
    exact ⟨ret_bool hm.out.symm, (HB _ _).out⟩
set_option maxRecDepth 100000 in
set_option maxHeartbeats 2000000 in
theorem meets_10 (hs : Short r) (h : IsRule r cs w) (hk : r.kind = 10) :
    Calls Try.prog 31 #[.agg #[.slice a rs.length cap], .agg cs.toArray] w fun e w' => e = .returned (.bool (meetsB rs r)) ∧ Below w.heap.size w w' := by
  obtain ⟨a4, c4, a5, c5, a6, c6, a7, c7, rfl, h4, -⟩ := h
  have s4 := hs.1
  clear hs
  obtain ⟨nm, kd, sz, lt, bs, ns, ts, ks⟩ := r
  dsimp only at hk s4 h4
  subst hk
  have hm : Hid (meetsB rs ⟨nm, 10, sz, lt, bs, ns, ts, ks⟩ = (decide (bs.length = 1) && decide (bs.headD 0 ≠ 92))) := by
    show _ = _
    simp [meetsB, termB]
  have HB : ∀ o p, Hid (Below w.heap.size w ((w.alloc o).alloc p)) := fun o p => ((Below.refl _ _).alloc (Nat.le_refl _) _).alloc (by simp) _
  by_cases h1 : bs.length = 1
  · have e1 : ((bs.length : Int) == 1) = true := by simp; omega
    match bs, h1 with
    | [c], _ =>
      have H4 := h4.below (HB (.cells #[.slice a rs.length cap] 26) (.cells #[.string nm, .int .i64 10, .int .i64 sz, .bool lt, .slice a4 [c].length c4, .slice a5 ns.length c5, .slice a6 ts.length c6, .slice a7 ks.length c7] 35)).out
      obtain ⟨b, off, rfl, hc⟩ := H4 0 (by simp)
      simp only [Nat.add_zero, List.getElem_cons_zero, List.length_cons, List.length_nil, Nat.zero_add] at hc hm e1 ⊢
      clear H4 h4
      by_cases h2 : c = 92
      · subst h2
        have e2 : (((92 : UInt8).toNat : Int) != 92) = false := by decide
        go_enter Try.func31, Try.ntmps31
        go_wp2
        go_ret
        exact ⟨ret_bool (by rw [hm.out]; rfl), (HB _ _).out⟩
      · have e2 : ((c.toNat : Int) != 92) = true := by
          have : c.toNat ≠ 92 := fun e => h2 (UInt8.toNat_inj.1 (by rw [e]; rfl))
          simp; omega
        have hd : decide (([c] : List UInt8).headD 0 ≠ 92) = true := decide_eq_true h2
        rw [hd] at hm
        clear h2 hd
        go_enter Try.func31, Try.ntmps31
        go_wp2
        go_ret
        exact ⟨ret_bool (by rw [hm.out]; rfl), (HB _ _).out⟩
  · have e1 : ((bs.length : Int) == 1) = false := by simp; omega
    have hd := decide_eq_false h1
    rw [hd] at hm
    go_enter Try.func31, Try.ntmps31
    go_wp2
    go_ret
    exact ⟨ret_bool (by rw [hm.out]; rfl), (HB _ _).out⟩
set_option maxRecDepth 100000 in
set_option maxHeartbeats 2000000 in
theorem meets_0 (h : IsRule r cs w) (k1 : r.kind ≠ 1) (k2 : r.kind ≠ 2) (k3 : r.kind ≠ 3) (k4 : r.kind ≠ 4) (k5 : r.kind ≠ 5) (k6 : r.kind ≠ 6) (k7 : r.kind ≠ 7) (k8 : r.kind ≠ 8) (k9 : r.kind ≠ 9) (k10 : r.kind ≠ 10) :
    Calls Try.prog 31 #[.agg #[.slice a rs.length cap], .agg cs.toArray] w fun e w' => e = .returned (.bool (meetsB rs r)) ∧ Below w.heap.size w w' := by
  obtain ⟨a4, c4, a5, c5, a6, c6, a7, c7, rfl, -⟩ := h
  have hm : Hid (meetsB rs r = false) := by
    show _ = _
    simp [meetsB, k1, k2, k3, k4, k5, k6, k7, k8, k9, k10]
  generalize r.kind = kd at *
  have g1 : (kd == 1) = false := by simpa using k1
  have g2 : (kd == 2) = false := by simpa using k2
  have g3 : (kd == 3) = false := by simpa using k3
  have g4 : (kd == 4) = false := by simpa using k4
  have g5 : (kd == 5) = false := by simpa using k5
  have g6 : (kd == 6) = false := by simpa using k6
  have g7 : (kd == 7) = false := by simpa using k7
  have g8 : (kd == 8) = false := by simpa using k8
  have g9 : (kd == 9) = false := by simpa using k9
  have g10 : (kd == 10) = false := by simpa using k10
  have HB : ∀ o p, Hid (Below w.heap.size w ((w.alloc o).alloc p)) := fun o p => ((Below.refl _ _).alloc (Nat.le_refl _) _).alloc (by simp) _
  go_enter Try.func31, Try.ntmps31
  go_wp2
  go_ret
  exact ⟨ret_bool hm.out.symm, (HB _ _).out⟩
theorem meets_impl (hl : rs.length ≤ 1048576) (hs : Short r) (hp : Spelt r) (hcap : Cap5 cs) (hrd : RdR a rs w) (h : IsRule r cs w) (hin : ∀ x ∈ r.kids, 0 ≤ x ∧ x < (rs.length : Int)) :
    Calls Try.prog 31 #[.agg #[.slice a rs.length cap], .agg cs.toArray] w fun e w' => e = .returned (.bool (meetsB rs r)) ∧ Below w.heap.size w w' := by
  rcases kind_cases r.kind with hk | hk | hk | hk | hk | hk | hk | hk | hk | hk | ⟨k1, k2, k3, k4, k5, k6, k7, k8, k9, k10⟩
  · exact meets_1 a rs cap r cs w h hk
  · exact meets_2 a rs cap r cs w hs h hk
  · exact meets_3 a rs cap r cs w h hk
  · exact meets_4 a rs cap r cs w hs hrd h hin hk
  · exact meets_5 a rs cap r cs w hs hrd h hin hk
  · exact meets_6 a rs cap r cs w hs hp hcap h hk
  · exact meets_7 a rs cap r cs w hl hs hrd h hk
  · exact meets_8 a rs cap r cs w hs h hk
  · exact meets_9 a rs cap r cs w hs h hk
  · exact meets_10 a rs cap r cs w hs h hk
  · exact meets_0 a rs cap r cs w h k1 k2 k3 k4 k5 k6 k7 k8 k9 k10
end
end Go.Proofs.Ytkegjgfggijinaa
