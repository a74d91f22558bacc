/- Contracts of the laws' helpers on slices of ints: copying, comparing, marking, looking for the marks, the size. Rules and descriptions in memory: what a slice of rules reads as. Contracts of the laws' helpers on slices of strings: copying, comparing, counting. Contracts of the laws' helpers on slices of bytes: copying, comparing, marking, looking for the marks. -/
import Derived.Test.YtndjefednfcmmaaGreatDoorRowF
import Derived.Test.YtndjefednfcmmaaGreatDoorGNum
namespace Go.Proofs.YtndjefednfcmmaaGreatDoor
open Go Go.RowKit
theorem infoInt : (Tryz.prog.info? 3).map (fun i => (i.zero, i.size, i.bytes)) = some (some (.int .i64 0), 1, 8) := by kernel_rfl
theorem infoPartsI : ∃ i, Tryz.prog.info? 3 = some i ∧ i.zero = some (.int .i64 0) ∧ i.size = 1 ∧ i.bytes = 8 := by
  obtain ⟨i, hi, h⟩ := Option.map_eq_some_iff.1 infoInt
  simp only [Prod.mk.injEq] at h
  exact ⟨i, hi, h.1, h.2.1, h.2.2⟩
abbrev RdI := RdF (Value.int .i64)
abbrev RowI := RowF (Value.int .i64)
abbrev IntsOut := ListOut (Value.int .i64)
theorem make_ints (n : Nat) (hn : n ≤ 1099511627776) (W : World) : (Instr.makeSlice 57 (.int .i64 (n : Int)) (.int .i64 (n : Int))).run Tryz.prog W = .ok (.slice (some ⟨W.heap.size, 0, none⟩) n n) (W.alloc (.cells (madeCells #[.int .i64 0] n) 3)) := by
  obtain ⟨i0, hi, hz0, hz1, hz2⟩ := infoPartsI
  have hr := run_make (P := Tryz.prog) W 57 3 i0 (.int .i64 0) Tryz.underlying57 hi hz0 .i64 .i64 (n : Int) (n : Int) (by omega) (by omega) (by rw [hz2]; omega) (by omega)
  rw [hr, hz1]
  simp [Value.cells]
/-- Whether two slices hold the same ints; only draws. -/
def EqOutI (bs cs : List Int) (w : World) (e : Ending) (w' : World) : Prop := e = .returned (.bool (decide (bs = cs))) ∧ ∃ n, w' = w.drewN n
set_option maxRecDepth 100000 in
theorem eq_ints (a b : Option Addr) (bs cs : List Int) (ca cb : Nat) (w : World) (hl : bs.length ≤ 1099511627776) (ha : RdI a bs w) (hb : RdI b cs w) :
    Calls Tryz.prog 102 #[.slice a bs.length ca, .slice b cs.length cb] w (EqOutI bs cs w) := by
  have HA := Lib.hid ha
  have HB := Lib.hid hb
  clear ha hb
  by_cases hlen : bs.length = cs.length
  · have h1 : ((bs.length : Int) != (cs.length : Int)) = false := by simp [hlen]
    have HL := Lib.hid hlen
    have hle : cs.length ≤ bs.length := by omega
    have hge : bs.length ≤ cs.length := by omega
    clear hlen
    go_enter Tryz.func102, Tryz.ntmps102
    go_wp2
    clear h1
    go_loopw [5] (fun i W => ∃ k n : Nat, k ≤ bs.length ∧ i = .int .i64 k ∧ W = w.drewN n ∧ Hid (bs.take k = cs.take k)) (fun i _ => bs.length - (intOf i).toNat)
    case atStart => exact ⟨0, 0, Nat.zero_le _, rfl, rfl, rfl⟩
    case round =>
      obtain ⟨k, n, hk, rfl, rfl, ht⟩ := hrel
      have k0 : (0 : Int) ≤ (k : Int) := by omega
      by_cases hlt : k < bs.length
      · obtain ⟨b1, o1, rfl, c1⟩ := HA.out k hlt
        obtain ⟨b2, o2, rfl, c2⟩ := HB.out k (by omega)
        have k1 : (k : Int) < (bs.length : Int) := by omega
        have k2 : (k : Int) < (cs.length : Int) := by omega
        by_cases he : bs[k] = cs[k]
        · have ht' := Lib.hid (takeNext ht.out hlt (by omega) he)
          rw [← he] at c2
          clear he
          generalize bs[k] = x at c1 c2
          go_wp2
          go_quiet (fail)
          go_wp2
          go_roundw
          case rel => exact ⟨k + 1, _, by omega, by go_num, rfl, ht'⟩
          case measure => simp [intOf]; omega
        · have hne := Lib.hid (takeNot hlt (by omega) he)
          have he' : Hid (bs[k] ≠ cs[k]) := he
          clear he
          generalize bs[k] = x at c1 he'
          generalize cs[k] = y at c2 he'
          have e1 : (x != y) = true := by simpa using he'.out
          go_wp2
          go_quiet (fail)
          go_wp2
          go_ret
          exact ⟨ret_bool (decide_eq_false hne.out).symm, _, by rw [World.drewN_drewN]⟩
      · have k1 : ¬ (k : Int) < (bs.length : Int) := by omega
        have heq : Hid (bs = cs) := by
          have h2 := ht.out
          rw [List.take_of_length_le (by omega), List.take_of_length_le (by omega)] at h2
          exact h2
        go_wp2
        go_ret
        exact ⟨ret_bool (decide_eq_true heq.out).symm, _, rfl⟩
  · have h1 : ((bs.length : Int) != (cs.length : Int)) = true := by simp; omega
    have hne : Hid (bs ≠ cs) := fun h => hlen (by rw [h])
    clear hlen
    go_enter Tryz.func102, Tryz.ntmps102
    go_wp2
    go_ret
    exact ⟨ret_bool (decide_eq_false hne.out).symm, 0, rfl⟩
/-- The marks k, k + 1, .. as ints. -/
def marksI (k n : Nat) : List Int := (List.range n).map fun j => ((k + j : Nat) : Int)
theorem marksI_length (k n : Nat) : (marksI k n).length = n := by simp [marksI]
theorem marksI_at (k n j : Nat) (h : j < (marksI k n).length) : (marksI k n)[j] = ((k + j : Nat) : Int) := by simp [marksI]
/-- The first i cells are marked. -/
def MarkedI (b off n k i : Nat) (w W : World) : Prop :=
  w.grownBy W (some b) ∧ ∀ j, j < n → (∃ x : Int, W.cell? ⟨b, off + j, none⟩ = some (.int .i64 x) ∧ (j < i → x = ((k + j : Nat) : Int))) ∧ W.frozen? ⟨b, off + j, none⟩ = false
theorem MarkedI.next {b off n k i : Nat} {w W : World} (h : MarkedI b off n k i w W) (hi : i < n) : MarkedI b off n k (i + 1) w (W.setCell ⟨b, off + i, none⟩ (.int .i64 ((k + i : Nat) : Int))) := by
  refine ⟨grown_set h.1 (off + i) _, fun j hj => ⟨?_, by simpa using (h.2 j hj).2⟩⟩
  obtain ⟨⟨x, hx, hxi⟩, _⟩ := h.2 j hj
  by_cases e : j = i
  · subst e
    exact ⟨_, World.cell?_setCell_same _ _ _ hx, fun _ => rfl⟩
  · refine ⟨x, (World.cell?_setCell_other _ _ _ _ (fun he => e (by have := congrArg Addr.off he; simp at this; omega))).trans hx, fun hlt => hxi (by omega)⟩
set_option maxRecDepth 100000 in
theorem marksI_some (b off n cap k : Nat) (w : World) (hn : n ≤ 1073741824) (hk : k ≤ 1073741824) (h0 : MarkedI b off n k 0 w w) :
    Calls Tryz.prog 66 #[.slice (some ⟨b, off, none⟩) n cap, .int .i64 k] w fun e w' => e = .returned (.int .i64 ((k + n : Nat) : Int)) ∧ MarkedI b off n k n w w' := by
  have H0 := Lib.hid h0
  clear h0
  go_enter Tryz.func66, Tryz.ntmps66
  go_wp2
  go_loopw [1, 5] (fun q i W => ∃ j : Nat, j ≤ n ∧ i = .int .i64 j ∧ q = .int .i64 ((k + j : Nat) : Int) ∧ Hid (MarkedI b off n k j w W)) (fun _ i _ => n - (intOf i).toNat)
  case atStart => exact ⟨0, Nat.zero_le _, rfl, rfl, H0.out⟩
  case round =>
    obtain ⟨j, hj, rfl, rfl, hm⟩ := hrel
    have k0 : (0 : Int) ≤ (j : Int) := by omega
    by_cases hlt : j < n
    · have k1 : (j : Int) < (n : Int) := by omega
      obtain ⟨⟨x, hc, -⟩, hf⟩ := hm.out.2 j hlt
      have hn' := Lib.hid (hm.out.next hlt)
      go_wp2
      go_roundw
      case rel => exact ⟨j + 1, by omega, by go_num, by go_num, hn'⟩
      case measure => simp [intOf]; omega
    · have k1 : ¬ (j : Int) < (n : Int) := by omega
      obtain rfl : j = n := by omega
      go_wp2
      go_ret
      exact ⟨rfl, hm.out⟩
theorem marksI_none (a : Option Addr) (cap : Nat) (k : Int) (w : World) :
    Calls Tryz.prog 66 #[.slice a 0 cap, .int .i64 k] w fun e w' => e = .returned (.int .i64 k) ∧ w = w' := by
  go_enter Tryz.func66, Tryz.ntmps66
  go_wp2
  go_loop [1, 5] (fun q i => i = .int .i64 0 ∧ q = .int .i64 k) (fun _ _ => 0)
  case atStart => exact ⟨rfl, rfl⟩
  case round =>
    obtain ⟨rfl, rfl⟩ := hrel
    go_wp2
    go_ret
    exact ⟨rfl, rfl⟩
/-- A row is marked: only its block has turned. -/
def MarkOutI (B : Nat) (a : Option Addr) (n cap k : Nat) (w : World) (e : Ending) (w' : World) : Prop :=
  e = .returned (.int .i64 ((k + n : Nat) : Int)) ∧ RowI B a (marksI k n) cap w' ∧ Touch B a n w w'
theorem mark_ints (B : Nat) (a : Option Addr) (ss : List Int) (cap k : Nat) (w : World) (hn : ss.length ≤ 1073741824) (hk : k ≤ 1073741824) (h : RowI B a ss cap w) :
    Calls Tryz.prog 66 #[.slice a ss.length cap, .int .i64 k] w (MarkOutI B a ss.length cap k w) := by
  have hcap : (marksI k ss.length).length ≤ cap ∧ (a = none → cap = 0) := by rw [marksI_length]; exact h.2
  by_cases hbs : ss = []
  · subst hbs
    refine (marksI_none a cap k w).mono ?_
    rintro e w' ⟨rfl, rfl⟩
    exact ⟨rfl, ⟨.inl rfl, hcap⟩, .inl rfl⟩
  · rcases h.1 with h | ⟨b, off, rfl, hB, hc⟩
    · exact absurd h hbs
    · refine (marksI_some b off ss.length cap k w hn hk ⟨grown_refl w b, fun j hj => ⟨⟨_, (hc j hj).1, fun h => by omega⟩, (hc j hj).2⟩⟩).mono ?_
      rintro e w' ⟨rfl, hg, hm⟩
      refine ⟨rfl, ⟨.inr ⟨b, off, rfl, hB, fun j hj => ?_⟩, hcap⟩, .inr ⟨fun h0 => hbs (List.eq_nil_of_length_eq_zero h0), b, off, rfl, hB, hg⟩⟩
      have hjn : j < ss.length := by rw [marksI_length] at hj; exact hj
      obtain ⟨⟨x, hx, hx'⟩, hf⟩ := hm j hjn
      refine ⟨?_, hf⟩
      rw [hx, hx' hjn, marksI_at]
set_option maxRecDepth 100000 in
theorem held_ints (a : Option Addr) (n cap k : Nat) (w : World) (hn : n ≤ 1073741824) (hk : k ≤ 1073741824) (h : RdI a (marksI k n) w) :
    Calls Tryz.prog 69 #[.slice a n cap, .int .i64 k] w fun e w' => e = .returned (.int .i64 ((k + n : Nat) : Int)) ∧ w = w' := by
  have H := Lib.hid h
  clear h
  go_enter Tryz.func69, Tryz.ntmps69
  go_wp2
  go_loop [1, 5] (fun q i => ∃ j : Nat, j ≤ n ∧ i = .int .i64 j ∧ q = .int .i64 ((k + j : Nat) : Int)) (fun _ i => n - (intOf i).toNat)
  case atStart => exact ⟨0, Nat.zero_le _, rfl, rfl⟩
  case round =>
    obtain ⟨j, hj, rfl, rfl⟩ := hrel
    have k0 : (0 : Int) ≤ (j : Int) := by omega
    by_cases hlt : j < n
    · have hl : j < (marksI k n).length := by rw [marksI_length]; exact hlt
      obtain ⟨b, off, rfl, hc⟩ := H.out j hl
      rw [marksI_at] at hc
      have k1 : (j : Int) < (n : Int) := by omega
      go_wp2
      go_round
      case rel => exact ⟨j + 1, by omega, by go_num, by go_num⟩
      case measure => simp [intOf]; omega
    · have k1 : ¬ (j : Int) < (n : Int) := by omega
      obtain rfl : j = n := by omega
      go_wp2
      go_ret
      exact ⟨rfl, rfl⟩
end Go.Proofs.YtndjefednfcmmaaGreatDoor
namespace Go.Proofs.YtndjefednfcmmaaGreatDoor
open Go Go.RowKit
/-- A rule, as a value. -/
structure RuleV where
  name : ByteArray
  kind : Int
  size : Int
  little : Bool
  bytes : List UInt8
  names : List ByteArray
  tags : List Int
  kids : List Int

abbrev RdStr := RdF Value.string
/-- Eight cells hold this rule. -/
def IsRule (r : RuleV) (cs : List Value) (w : World) : Prop :=
  ∃ a4 c4 a5 c5 a6 c6 a7 c7, cs = [.string r.name, .int .i64 r.kind, .int .i64 r.size, .bool r.little, .slice a4 r.bytes.length c4, .slice a5 r.names.length c5, .slice a6 r.tags.length c6, .slice a7 r.kids.length c7] ∧
    Rd a4 r.bytes w ∧ RdStr a5 r.names w ∧ RdI a6 r.tags w ∧ RdI a7 r.kids w
theorem IsRule.below {r : RuleV} {cs : List Value} {w w' : World} (h : IsRule r cs w) (hb : Below w.heap.size w w') : IsRule r cs w' := by
  obtain ⟨a4, c4, a5, c5, a6, c6, a7, c7, e, h4, h5, h6, h7⟩ := h
  exact ⟨a4, c4, a5, c5, a6, c6, a7, c7, e, h4.below hb, h5.below hb, h6.below hb, h7.below hb⟩
/-- The slice at a reads as these rules. -/
def RdR (a : Option Addr) (rs : List RuleV) (w : World) : Prop :=
  ∀ j (h : j < rs.length), ∃ b off cs, a = some ⟨b, off, none⟩ ∧ IsRule rs[j] cs w ∧ ∀ i v, cs[i]? = some v → w.cell? ⟨b, off + j * 8 + i, none⟩ = some v
theorem RdR.below {a : Option Addr} {rs : List RuleV} {w w' : World} (h : RdR a rs w) (hb : Below w.heap.size w w') : RdR a rs w' := fun j hj => by
  obtain ⟨b, off, cs, ha, hr, hc⟩ := h j hj
  exact ⟨b, off, cs, ha, hr.below hb, fun i v hi => (hb.cell (cell_lt (hc i v hi))).trans (hc i v hi)⟩
/-- One rule of a slice, cell by cell. -/
theorem RdR.at {a : Option Addr} {rs : List RuleV} {w : World} (h : RdR a rs w) (j : Nat) (hj : j < rs.length) : ∃ b off a4 c4 a5 c5 a6 c6 a7 c7, a = some ⟨b, off, none⟩ ∧
    (w.cell? ⟨b, off + j * 8, none⟩ = some (.string rs[j].name) ∧ w.cell? ⟨b, off + j * 8 + 1, none⟩ = some (.int .i64 rs[j].kind) ∧ w.cell? ⟨b, off + j * 8 + 2, none⟩ = some (.int .i64 rs[j].size) ∧ w.cell? ⟨b, off + j * 8 + 3, none⟩ = some (.bool rs[j].little) ∧
    w.cell? ⟨b, off + j * 8 + 4, none⟩ = some (.slice a4 rs[j].bytes.length c4) ∧ w.cell? ⟨b, off + j * 8 + 5, none⟩ = some (.slice a5 rs[j].names.length c5) ∧ w.cell? ⟨b, off + j * 8 + 6, none⟩ = some (.slice a6 rs[j].tags.length c6) ∧ w.cell? ⟨b, off + j * 8 + 7, none⟩ = some (.slice a7 rs[j].kids.length c7)) ∧
    Rd a4 rs[j].bytes w ∧ RdStr a5 rs[j].names w ∧ RdI a6 rs[j].tags w ∧ RdI a7 rs[j].kids w := by
  obtain ⟨b, off, cs, ha, ⟨a4, c4, a5, c5, a6, c6, a7, c7, rfl, h4, h5, h6, h7⟩, hc⟩ := h j hj
  exact ⟨b, off, a4, c4, a5, c5, a6, c6, a7, c7, ha, ⟨hc 0 _ rfl, hc 1 _ rfl, hc 2 _ rfl, hc 3 _ rfl, hc 4 _ rfl, hc 5 _ rfl, hc 6 _ rfl, hc 7 _ rfl⟩, h4, h5, h6, h7⟩
/-- The first rule with a name, from k on. -/
def findFrom (x : ByteArray) : List RuleV → Nat → Int
  | [], _ => -1
  | r :: rs, k => if r.name = x then (k : Int) else findFrom x rs (k + 1)
theorem findFrom_yes {x : ByteArray} {rs : List RuleV} {k : Nat} (h : k < rs.length) (hx : rs[k].name = x) : findFrom x (rs.drop k) k = (k : Int) := by
  rw [List.drop_eq_getElem_cons h]
  simp only [findFrom, if_pos hx]
theorem findFrom_no {x : ByteArray} {rs : List RuleV} {k : Nat} (h : k < rs.length) (hx : rs[k].name ≠ x) : findFrom x (rs.drop k) k = findFrom x (rs.drop (k + 1)) (k + 1) := by
  rw [List.drop_eq_getElem_cons h]
  simp only [findFrom, if_neg hx]
set_option maxRecDepth 100000 in
theorem find_spec (a : Option Addr) (rs : List RuleV) (cap : Nat) (x : ByteArray) (w : World) (hl : rs.length ≤ 1073741824) (h : RdR a rs w) :
    Calls Tryz.prog 159 #[.agg #[.slice a rs.length cap], .string x] w fun e w' => e = .returned (.int .i64 (findFrom x rs 0)) ∧ Below w.heap.size w w' := by
  have hB : Below w.heap.size w (w.alloc (.cells #[.slice a rs.length cap] 26)) := (Below.refl _ _).alloc (Nat.le_refl _) _
  have H := Lib.hid (h.below hB)
  have HB := Lib.hid hB
  clear h hB
  go_enter Tryz.func159, Tryz.ntmps159
  go_wp2
  go_loop [5] (fun i => ∃ k : Nat, k ≤ rs.length ∧ i = .int .i64 k ∧ Hid (findFrom x rs 0 = findFrom x (rs.drop k) k)) (fun i => rs.length - (intOf i).toNat)
  case atStart => exact ⟨0, Nat.zero_le _, rfl, rfl⟩
  case round =>
    obtain ⟨k, hk, rfl, hf⟩ := hrel
    have k0 : (0 : Int) ≤ (k : Int) := by omega
    by_cases hlt : k < rs.length
    · have k1 : (k : Int) < (rs.length : Int) := by omega
      obtain ⟨b, off, a4, c4, a5, c5, a6, c6, a7, c7, rfl, ⟨d0, -⟩, -⟩ := H.out.at k hlt
      by_cases hx : rs[k].name = x
      · have hr : Hid (findFrom x rs 0 = (k : Int)) := hf.out.trans (findFrom_yes hlt hx)
        have g1 := str_eq hx
        generalize rs[k].name = y at d0 g1
        clear hx
        go_wp2
        go_ret
        exact ⟨ret_int hr.out.symm, HB.out⟩
      · have hr : Hid (findFrom x rs 0 = findFrom x (rs.drop (k + 1)) (k + 1)) := hf.out.trans (findFrom_no hlt hx)
        have g1 := str_ne hx
        generalize rs[k].name = y at d0 g1
        clear hx
        go_wp2
        go_round
        case rel => exact ⟨k + 1, by omega, by go_num, hr⟩
        case measure => simp [intOf]; omega
    · have k1 : ¬ (k : Int) < (rs.length : Int) := by omega
      have hr : Hid (findFrom x rs 0 = -1) := by
        have := hf.out
        rw [List.drop_of_length_le (by omega)] at this
        exact this
      go_wp2
      go_ret
      exact ⟨ret_int hr.out.symm, HB.out⟩
end Go.Proofs.YtndjefednfcmmaaGreatDoor
namespace Go.Proofs.YtndjefednfcmmaaGreatDoor
open Go Go.RowKit
theorem infoStr : (Tryz.prog.info? 9).map (fun i => (i.zero, i.size, i.bytes)) = some (some (.string ⟨#[]⟩), 1, 16) := by kernel_rfl
theorem infoPartsS : ∃ i, Tryz.prog.info? 9 = some i ∧ i.zero = some (.string ⟨#[]⟩) ∧ i.size = 1 ∧ i.bytes = 16 := by
  obtain ⟨i, hi, h⟩ := Option.map_eq_some_iff.1 infoStr
  simp only [Prod.mk.injEq] at h
  exact ⟨i, hi, h.1, h.2.1, h.2.2⟩
abbrev RdS := RdF Value.string
abbrev RowS := RowF Value.string
abbrev StrsOut := ListOut Value.string
theorem make_strs (n : Nat) (hn : n ≤ 1099511627776) (W : World) : (Instr.makeSlice 51 (.int .i64 (n : Int)) (.int .i64 (n : Int))).run Tryz.prog W = .ok (.slice (some ⟨W.heap.size, 0, none⟩) n n) (W.alloc (.cells (madeCells #[.string ⟨#[]⟩] n) 9)) := by
  obtain ⟨i0, hi, hz0, hz1, hz2⟩ := infoPartsS
  have hr := run_make (P := Tryz.prog) W 51 9 i0 (.string ⟨#[]⟩) Tryz.underlying51 hi hz0 .i64 .i64 (n : Int) (n : Int) (by omega) (by omega) (by rw [hz2]; omega) (by omega)
  rw [hr, hz1]
  simp [Value.cells]
/-- Whether two slices hold the same strings; only draws. -/
def EqOutS (bs cs : List ByteArray) (w : World) (e : Ending) (w' : World) : Prop := e = .returned (.bool (decide (bs = cs))) ∧ ∃ n, w' = w.drewN n
set_option maxRecDepth 100000 in
theorem eq_strs (a b : Option Addr) (bs cs : List ByteArray) (ca cb : Nat) (w : World) (hl : bs.length ≤ 1099511627776) (ha : RdS a bs w) (hb : RdS b cs w) :
    Calls Tryz.prog 101 #[.slice a bs.length ca, .slice b cs.length cb] w (EqOutS bs cs w) := by
  have HA := Lib.hid ha
  have HB := Lib.hid hb
  clear ha hb
  by_cases hlen : bs.length = cs.length
  · have h1 : ((bs.length : Int) != (cs.length : Int)) = false := by simp [hlen]
    have HL := Lib.hid hlen
    have hle : cs.length ≤ bs.length := by omega
    have hge : bs.length ≤ cs.length := by omega
    clear hlen
    go_enter Tryz.func101, Tryz.ntmps101
    go_wp2
    clear h1
    go_loopw [5] (fun i W => ∃ k n : Nat, k ≤ bs.length ∧ i = .int .i64 k ∧ W = w.drewN n ∧ Hid (bs.take k = cs.take k)) (fun i _ => bs.length - (intOf i).toNat)
    case atStart => exact ⟨0, 0, Nat.zero_le _, rfl, rfl, rfl⟩
    case round =>
      obtain ⟨k, n, hk, rfl, rfl, ht⟩ := hrel
      have k0 : (0 : Int) ≤ (k : Int) := by omega
      by_cases hlt : k < bs.length
      · obtain ⟨b1, o1, rfl, c1⟩ := HA.out k hlt
        obtain ⟨b2, o2, rfl, c2⟩ := HB.out k (by omega)
        have k1 : (k : Int) < (bs.length : Int) := by omega
        have k2 : (k : Int) < (cs.length : Int) := by omega
        by_cases he : bs[k] = cs[k]
        · have ht' := Lib.hid (takeNext ht.out hlt (by omega) he)
          rw [← he] at c2
          clear he
          generalize bs[k] = x at c1 c2
          go_wp2
          go_quiet (fail)
          go_wp2
          go_roundw
          case rel => exact ⟨k + 1, _, by omega, by go_num, rfl, ht'⟩
          case measure => simp [intOf]; omega
        · have hne := Lib.hid (takeNot hlt (by omega) he)
          have he' : Hid (bs[k] ≠ cs[k]) := he
          clear he
          generalize bs[k] = x at c1 he'
          generalize cs[k] = y at c2 he'
          have e1 := str_ne he'.out
          go_wp2
          go_quiet (fail)
          go_wp2
          go_ret
          exact ⟨ret_bool (decide_eq_false hne.out).symm, _, by rw [World.drewN_drewN]⟩
      · have k1 : ¬ (k : Int) < (bs.length : Int) := by omega
        have heq : Hid (bs = cs) := by
          have h2 := ht.out
          rw [List.take_of_length_le (by omega), List.take_of_length_le (by omega)] at h2
          exact h2
        go_wp2
        go_ret
        exact ⟨ret_bool (decide_eq_true heq.out).symm, _, rfl⟩
  · have h1 : ((bs.length : Int) != (cs.length : Int)) = true := by simp; omega
    have hne : Hid (bs ≠ cs) := fun h => hlen (by rw [h])
    clear hlen
    go_enter Tryz.func101, Tryz.ntmps101
    go_wp2
    go_ret
    exact ⟨ret_bool (decide_eq_false hne.out).symm, 0, rfl⟩
end Go.Proofs.YtndjefednfcmmaaGreatDoor
namespace Go.Proofs.YtndjefednfcmmaaGreatDoor
open Go Go.RowKit
/-- A row that may be written, in a block from B on, holds these bytes. -/
def Fresh (B : Nat) (a : Option Addr) (bs : List UInt8) (w : World) : Prop :=
  bs = [] ∨ ∃ b off, a = some ⟨b, off, none⟩ ∧ B ≤ b ∧ ∀ j (h : j < bs.length), w.cell? ⟨b, off + j, none⟩ = some (.int .u8 (bs[j].toNat : Int)) ∧ w.frozen? ⟨b, off + j, none⟩ = false
theorem Fresh.rd {B : Nat} {a : Option Addr} {bs : List UInt8} {w : World} (h : Fresh B a bs w) : Rd a bs w := fun j hj => by
  rcases h with rfl | ⟨b, off, ha, _, hc⟩
  · simp at hj
  · exact ⟨b, off, ha, (hc j hj).1⟩
theorem Fresh.below {B : Nat} {a : Option Addr} {bs : List UInt8} {w w' : World} (h : Fresh B a bs w) (hb : Below w.heap.size w w') : Fresh B a bs w' := by
  rcases h with rfl | ⟨b, off, ha, hB, hc⟩
  · exact .inl rfl
  · exact .inr ⟨b, off, ha, hB, fun j hj => ⟨(hb.cell (cell_lt (hc j hj).1)).trans (hc j hj).1, (hb.frozen (p := ⟨b, off + j, none⟩) (cell_lt (hc j hj).1)).trans (hc j hj).2⟩⟩
theorem Fresh.more {B B' : Nat} {a : Option Addr} {bs : List UInt8} {w : World} (h : Fresh B a bs w) (hB : B' ≤ B) : Fresh B' a bs w := by
  rcases h with rfl | ⟨b, off, ha, hb, hc⟩
  · exact .inl rfl
  · exact .inr ⟨b, off, ha, Nat.le_trans hB hb, hc⟩
/-- A slice of these bytes in new memory: where it lies and how much it may hold. -/
def Row (B : Nat) (a : Option Addr) (bs : List UInt8) (cap : Nat) (w : World) : Prop := Fresh B a bs w ∧ bs.length ≤ cap ∧ (a = none → cap = 0)
theorem Row.rd {B cap : Nat} {a : Option Addr} {bs : List UInt8} {w : World} (h : Row B a bs cap w) : Rd a bs w := h.1.rd
theorem Row.below {B cap : Nat} {a : Option Addr} {bs : List UInt8} {w w' : World} (h : Row B a bs cap w) (hb : Below w.heap.size w w') : Row B a bs cap w' := ⟨h.1.below hb, h.2⟩
theorem Row.more {B B' cap : Nat} {a : Option Addr} {bs : List UInt8} {w : World} (h : Row B a bs cap w) (hB : B' ≤ B) : Row B' a bs cap w := ⟨h.1.more hB, h.2⟩
/-- New bytes come back; what was there is as it was. -/
def BytesOut (bs : List UInt8) (w : World) (e : Ending) (w' : World) : Prop :=
  ∃ a cap, e = .returned (.slice a bs.length cap) ∧ Row w.heap.size a bs cap w' ∧ Below w.heap.size w w'
/-- The first k bytes copied, the rest 0. -/
def Half (bs : List UInt8) (k N : Nat) (w W : World) : Prop :=
  Below w.heap.size w W ∧ ∀ j (h : j < bs.length), W.cell? ⟨N, j, none⟩ = some (.int .u8 (if j < k then (bs[j].toNat : Int) else 0)) ∧ W.frozen? ⟨N, j, none⟩ = false
theorem Half.next {bs : List UInt8} {k N : Nat} {w W : World} (h : Half bs k N w W) (hN : w.heap.size ≤ N) (hk : k < bs.length) : Half bs (k + 1) N w (W.setCell ⟨N, k, none⟩ (.int .u8 (bs[k].toNat : Int))) := by
  refine ⟨h.1.setCell (p := ⟨N, k, none⟩) hN _, fun j hj => ⟨?_, by simpa using (h.2 j hj).2⟩⟩
  by_cases e : j = k
  · subst e
    rw [World.cell?_setCell_same _ _ _ (h.2 j hj).1, if_pos (by omega)]
  · rw [World.cell?_setCell_other _ _ _ _ (fun he => e (by have := congrArg Addr.off he; simpa using this.symm)), (h.2 j hj).1]
    by_cases hlt : j < k
    · rw [if_pos hlt, if_pos (by omega)]
    · rw [if_neg hlt, if_neg (by omega)]
theorem infoU8 : (Tryz.prog.info? 5).map (fun i => (i.zero, i.size, i.bytes)) = some (some (.int .u8 0), 1, 1) := by kernel_rfl
theorem half_start (bs : List UInt8) (w : World) : Half bs 0 w.heap.size w (w.alloc (.cells (madeCells #[.int .u8 0] bs.length) 5)) := by
  have hr := World.rowIs_made w (.int .u8 0) bs.length 5
  exact ⟨(Below.refl _ _).alloc (Nat.le_refl _) _, fun j hj => ⟨by rw [hr.cell hj, if_neg (by omega)], hr.frozen j⟩⟩
theorem half_end {bs : List UInt8} {w W : World} (h : Half bs bs.length w.heap.size w W) : Fresh w.heap.size (some ⟨w.heap.size, 0, none⟩) bs W := by
  refine .inr ⟨w.heap.size, 0, rfl, Nat.le_refl _, fun j hj => ?_⟩
  have := h.2 j hj
  rw [if_pos hj] at this
  simpa using this
theorem take_next {bs cs : List UInt8} {k : Nat} (h : bs.take k = cs.take k) (hb : k < bs.length) (hc : k < cs.length) (e : bs[k] = cs[k]) : bs.take (k + 1) = cs.take (k + 1) := by
  rw [List.take_succ_eq_append_getElem hb, List.take_succ_eq_append_getElem hc, h, e]
theorem take_not {bs cs : List UInt8} {k : Nat} (hb : k < bs.length) (hc : k < cs.length) (e : bs[k] ≠ cs[k]) : bs ≠ cs := fun h => e (by subst h; rfl)
theorem byte_ne {x y : UInt8} (h : x ≠ y) : ((x.toNat : Int) != (y.toNat : Int)) = true := by
  simp only [bne_iff_ne, ne_eq, Int.natCast_inj]
  exact fun e => h (UInt8.toNat_inj.1 e)
/-- Whether two slices hold the same bytes; only draws. -/
def EqOut (bs cs : List UInt8) (w : World) (e : Ending) (w' : World) : Prop := e = .returned (.bool (decide (bs = cs))) ∧ ∃ n, w' = w.drewN n
set_option maxRecDepth 100000 in
theorem eq_any (a b : Option Addr) (bs cs : List UInt8) (ca cb : Nat) (w : World) (hl : bs.length ≤ 1099511627776) (ha : Rd a bs w) (hb : Rd b cs w) :
    Calls Tryz.prog 100 #[.slice a bs.length ca, .slice b cs.length cb] w (EqOut bs cs w) := by
  have HA := Lib.hid ha
  have HB := Lib.hid hb
  clear ha hb
  by_cases hlen : bs.length = cs.length
  · have h1 : ((bs.length : Int) != (cs.length : Int)) = false := by simp [hlen]
    have HL := Lib.hid hlen
    have hle : cs.length ≤ bs.length := by omega
    have hge : bs.length ≤ cs.length := by omega
    clear hlen
    go_enter Tryz.func100, Tryz.ntmps100
    go_wp2
    clear h1
    go_loopw [5] (fun i W => ∃ k n : Nat, k ≤ bs.length ∧ i = .int .i64 k ∧ W = w.drewN n ∧ Hid (bs.take k = cs.take k)) (fun i _ => bs.length - (intOf i).toNat)
    case atStart => exact ⟨0, 0, Nat.zero_le _, rfl, rfl, rfl⟩
    case round =>
      obtain ⟨k, n, hk, rfl, rfl, ht⟩ := hrel
      have k0 : (0 : Int) ≤ (k : Int) := by omega
      by_cases hlt : k < bs.length
      · obtain ⟨b1, o1, rfl, c1⟩ := HA.out k hlt
        obtain ⟨b2, o2, rfl, c2⟩ := HB.out k (by omega)
        have k1 : (k : Int) < (bs.length : Int) := by omega
        have k2 : (k : Int) < (cs.length : Int) := by omega
        by_cases he : bs[k] = cs[k]
        · have ht' := Lib.hid (take_next ht.out hlt (by omega) he)
          have e1 : ((bs[k].toNat : Int) != ((cs[k]'(by omega)).toNat : Int)) = false := by simp [he]
          clear he
          go_wp2
          go_quiet (fail)
          go_wp2
          go_roundw
          case rel => exact ⟨k + 1, _, by omega, by go_num, rfl, ht'⟩
          case measure => simp [intOf]; omega
        · have hne := Lib.hid (take_not hlt (by omega) he)
          have e1 := byte_ne he
          clear he
          go_wp2
          go_quiet (fail)
          go_wp2
          go_ret
          exact ⟨ret_bool (decide_eq_false hne.out).symm, _, by rw [World.drewN_drewN]⟩
      · have k1 : ¬ (k : Int) < (bs.length : Int) := by omega
        have heq : Hid (bs = cs) := by
          have h2 := ht.out
          rw [List.take_of_length_le (by omega), List.take_of_length_le (by omega)] at h2
          exact h2
        go_wp2
        go_ret
        exact ⟨ret_bool (decide_eq_true heq.out).symm, _, rfl⟩
  · have h1 : ((bs.length : Int) != (cs.length : Int)) = true := by simp; omega
    have hne : Hid (bs ≠ cs) := fun h => hlen (by rw [h])
    clear hlen
    go_enter Tryz.func100, Tryz.ntmps100
    go_wp2
    go_ret
    exact ⟨ret_bool (decide_eq_false hne.out).symm, 0, rfl⟩
/-- The marks k, k + 1, .. -/
def marks (k : Nat) : Nat → List UInt8
  | 0 => []
  | n + 1 => UInt8.ofNat k :: marks (k + 1) n
theorem marks_length : ∀ (k n : Nat), (marks k n).length = n
  | _, 0 => rfl
  | k, n + 1 => by simp [marks, marks_length (k + 1) n]
theorem marks_at : ∀ (k n j : Nat) (h : j < (marks k n).length), (marks k n)[j] = UInt8.ofNat (k + j)
  | k, 0, j, h => by simp [marks] at h
  | k, n + 1, 0, h => by simp [marks]
  | k, n + 1, j + 1, h => by
    simp only [marks, List.getElem_cons_succ]
    rw [marks_at (k + 1) n j]
    congr 1; omega
/-- The first i cells are marked. -/
def Marked (b off n k i : Nat) (w W : World) : Prop :=
  w.grownBy W (some b) ∧ ∀ j, j < n → (∃ x : Int, W.cell? ⟨b, off + j, none⟩ = some (.int .u8 x) ∧ (j < i → x = ((k + j) % 256 : Nat))) ∧ W.frozen? ⟨b, off + j, none⟩ = false
theorem Marked.next {b off n k i : Nat} {w W : World} (h : Marked b off n k i w W) (hi : i < n) : Marked b off n k (i + 1) w (W.setCell ⟨b, off + i, none⟩ (.int .u8 (((k + i) % 256 : Nat) : Int))) := by
  refine ⟨grown_set h.1 (off + i) _, fun j hj => ⟨?_, by simpa using (h.2 j hj).2⟩⟩
  obtain ⟨⟨x, hx, hxi⟩, _⟩ := h.2 j hj
  by_cases e : j = i
  · subst e
    exact ⟨_, World.cell?_setCell_same _ _ _ hx, fun _ => rfl⟩
  · refine ⟨x, (World.cell?_setCell_other _ _ _ _ (fun he => e (by have := congrArg Addr.off he; simp at this; omega))).trans hx, fun hlt => hxi (by omega)⟩
set_option maxRecDepth 100000 in
theorem mark_some (b off n cap k : Nat) (w : World) (hn : n ≤ 1099511627776) (hk : k ≤ 1099511627776) (h0 : Marked b off n k 0 w w) :
    Calls Tryz.prog 64 #[.slice (some ⟨b, off, none⟩) n cap, .int .i64 k] w fun e w' => e = .returned (.int .i64 ((k + n : Nat) : Int)) ∧ Marked b off n k n w w' := by
  have H0 := Lib.hid h0
  clear h0
  go_enter Tryz.func64, Tryz.ntmps64
  go_wp2
  go_loopw [1, 5] (fun q i W => ∃ j : Nat, j ≤ n ∧ i = .int .i64 j ∧ q = .int .i64 ((k + j : Nat) : Int) ∧ Hid (Marked b off n k j w W)) (fun _ i _ => n - (intOf i).toNat)
  case atStart => exact ⟨0, Nat.zero_le _, rfl, rfl, H0.out⟩
  case round =>
    obtain ⟨j, hj, rfl, rfl, hm⟩ := hrel
    have k0 : (0 : Int) ≤ (j : Int) := by omega
    by_cases hlt : j < n
    · obtain ⟨⟨x, hc, -⟩, hf⟩ := hm.out.2 j hlt
      have hn' := Lib.hid (hm.out.next hlt)
      have k1 : (j : Int) < (n : Int) := by omega
      go_wp2
      go_roundw
      case rel => exact ⟨j + 1, by omega, by go_num, by go_num, hn'⟩
      case measure => simp [intOf]; omega
    · have k1 : ¬ (j : Int) < (n : Int) := by omega
      obtain rfl : j = n := by omega
      go_wp2
      go_ret
      exact ⟨rfl, hm.out⟩
theorem mark_none (a : Option Addr) (cap : Nat) (k : Int) (w : World) :
    Calls Tryz.prog 64 #[.slice a 0 cap, .int .i64 k] w fun e w' => e = .returned (.int .i64 k) ∧ w = w' := by
  go_enter Tryz.func64, Tryz.ntmps64
  go_wp2
  go_loop [1, 5] (fun q i => i = .int .i64 0 ∧ q = .int .i64 k) (fun _ _ => 0)
  case atStart => exact ⟨rfl, rfl⟩
  case round =>
    obtain ⟨rfl, rfl⟩ := hrel
    go_wp2
    go_ret
    exact ⟨rfl, rfl⟩
theorem Fresh.old {B : Nat} {a : Option Addr} {bs : List UInt8} {w : World} (h : Fresh B a bs w) : Old w.heap.size a bs.length := by
  cases bs with
  | nil => exact .inl rfl
  | cons x r =>
    rcases h with h | ⟨b, off, ha, _, hc⟩
    · cases h
    · exact .inr ⟨b, off, ha, cell_lt (hc 0 (by simp)).1⟩
theorem Fresh.grown {B : Nat} {a : Option Addr} {bs : List UInt8} {w w' : World} {c : Nat} (h : Fresh B a bs w) (hg : w.grownBy w' (some c)) (hne : ∀ b off, a = some ⟨b, off, none⟩ → bs ≠ [] → b ≠ c) : Fresh B a bs w' := by
  rcases h with rfl | ⟨b, off, ha, hB, hc⟩
  · exact .inl rfl
  · by_cases hbs : bs = []
    · exact .inl hbs
    · have hb := hne b off ha hbs
      refine .inr ⟨b, off, ha, hB, fun j hj => ⟨hg.cell (hc j hj).1 (by simpa using hb), ?_⟩⟩
      exact (World.frozen?_of_block (a := ⟨b, off + j, none⟩) (hg.block b (cell_lt (hc j hj).1) (by simpa using hb))).trans (hc j hj).2
/-- An older row stays when a newer one is touched. -/
theorem Fresh.keepOld {BX BY : Nat} {aX aY : Option Addr} {bs : List UInt8} {n : Nat} {w w' : World} (h : Fresh BX aX bs w) (ho : Old BY aX bs.length) (ht : Touch BY aY n w w') : Fresh BX aX bs w' := by
  rcases ht with rfl | ⟨_, c, off, _, hB, hg⟩
  · exact h
  · refine h.grown hg fun b off ha hbs => ?_
    rcases ho with h0 | ⟨b', off', ha', hlt⟩
    · exact absurd (List.eq_nil_of_length_eq_zero h0) hbs
    · rw [ha] at ha'
      injection ha' with ha'
      injection ha' with h1
      omega
/-- A newer row stays when an older one is touched. -/
theorem Fresh.keepNew {BX BY : Nat} {aX aY : Option Addr} {bs : List UInt8} {n : Nat} {w w' : World} (h : Fresh BX aX bs w) (ho : Old BX aY n) (ht : Touch BY aY n w w') : Fresh BX aX bs w' := by
  rcases ht with rfl | ⟨hn, c, off, hc, hB, hg⟩
  · exact h
  · rcases ho with h0 | ⟨b', off', ha', hlt⟩
    · exact absurd h0 hn
    · rw [hc] at ha'
      injection ha' with ha'
      injection ha' with h1
      subst h1
      rcases h with rfl | ⟨b, off2, ha, hBX, hcell⟩
      · exact .inl rfl
      · exact (show Fresh BX aX bs w from .inr ⟨b, off2, ha, hBX, hcell⟩).grown hg fun b2 off3 ha2 _ => by
          rw [ha] at ha2
          injection ha2 with ha2
          injection ha2 with h2
          omega
theorem Row.old {B cap : Nat} {a : Option Addr} {bs : List UInt8} {w : World} (h : Row B a bs cap w) : Old w.heap.size a bs.length := h.1.old
theorem Row.keepOld {BX BY cap : Nat} {aX aY : Option Addr} {bs : List UInt8} {n : Nat} {w w' : World} (h : Row BX aX bs cap w) (ho : Old BY aX bs.length) (ht : Touch BY aY n w w') : Row BX aX bs cap w' := ⟨h.1.keepOld ho ht, h.2⟩
theorem Row.keepNew {BX BY cap : Nat} {aX aY : Option Addr} {bs : List UInt8} {n : Nat} {w w' : World} (h : Row BX aX bs cap w) (ho : Old BX aY n) (ht : Touch BY aY n w w') : Row BX aX bs cap w' := ⟨h.1.keepNew ho ht, h.2⟩
/-- A row is marked: only its block has turned. -/
def MarkOut (B : Nat) (a : Option Addr) (n cap k : Nat) (w : World) (e : Ending) (w' : World) : Prop :=
  e = .returned (.int .i64 ((k + n : Nat) : Int)) ∧ Row B a (marks k n) cap w' ∧ Touch B a n w w'
theorem mark_any (B : Nat) (a : Option Addr) (bs : List UInt8) (cap k : Nat) (w : World) (hn : bs.length ≤ 1099511627776) (hk : k ≤ 1099511627776) (h : Row B a bs cap w) :
    Calls Tryz.prog 64 #[.slice a bs.length cap, .int .i64 k] w (MarkOut B a bs.length cap k w) := by
  have hcap : (marks k bs.length).length ≤ cap ∧ (a = none → cap = 0) := by rw [marks_length]; exact h.2
  by_cases hbs : bs = []
  · subst hbs
    refine (mark_none a cap k w).mono ?_
    rintro e w' ⟨rfl, rfl⟩
    exact ⟨rfl, ⟨.inl rfl, hcap⟩, .inl rfl⟩
  · rcases h.1 with h | ⟨b, off, rfl, hB, hc⟩
    · exact absurd h hbs
    · refine (mark_some b off bs.length cap k w hn hk ⟨grown_refl w b, fun j hj => ⟨⟨_, (hc j hj).1, fun h => by omega⟩, (hc j hj).2⟩⟩).mono ?_
      rintro e w' ⟨rfl, hg, hm⟩
      refine ⟨rfl, ⟨.inr ⟨b, off, rfl, hB, fun j hj => ?_⟩, hcap⟩, .inr ⟨fun h0 => hbs (List.eq_nil_of_length_eq_zero h0), b, off, rfl, hB, hg⟩⟩
      have hjn : j < bs.length := by rw [marks_length] at hj; exact hj
      obtain ⟨⟨x, hx, hx'⟩, hf⟩ := hm j hjn
      refine ⟨?_, hf⟩
      rw [hx, hx' hjn, marks_at, UInt8.toNat_ofNat']
set_option maxRecDepth 100000 in
theorem held_any (a : Option Addr) (n cap k : Nat) (w : World) (hn : n ≤ 1099511627776) (hk : k ≤ 1099511627776) (h : Rd a (marks k n) w) :
    Calls Tryz.prog 67 #[.slice a n cap, .int .i64 k] w fun e w' => e = .returned (.int .i64 ((k + n : Nat) : Int)) ∧ w = w' := by
  have H := Lib.hid h
  clear h
  go_enter Tryz.func67, Tryz.ntmps67
  go_wp2
  go_loop [1, 5] (fun q i => ∃ j : Nat, j ≤ n ∧ i = .int .i64 j ∧ q = .int .i64 ((k + j : Nat) : Int)) (fun _ i => n - (intOf i).toNat)
  case atStart => exact ⟨0, Nat.zero_le _, rfl, rfl⟩
  case round =>
    obtain ⟨j, hj, rfl, rfl⟩ := hrel
    have k0 : (0 : Int) ≤ (j : Int) := by omega
    by_cases hlt : j < n
    · have hl : j < (marks k n).length := by rw [marks_length]; exact hlt
      obtain ⟨b, off, rfl, hc0⟩ := H.out j hl
      have hc : w.cell? ⟨b, off + j, none⟩ = some (.int .u8 (((k + j) % 256 : Nat) : Int)) := by
        rw [hc0, marks_at, UInt8.toNat_ofNat']
      clear hc0
      have k1 : (j : Int) < (n : Int) := by omega
      go_wp2
      go_round
      case rel => exact ⟨j + 1, by omega, by go_num, by go_num⟩
      case measure => simp [intOf]; omega
    · have k1 : ¬ (j : Int) < (n : Int) := by omega
      obtain rfl : j = n := by omega
      go_wp2
      go_ret
      exact ⟨rfl, rfl⟩
end Go.Proofs.YtndjefednfcmmaaGreatDoor
