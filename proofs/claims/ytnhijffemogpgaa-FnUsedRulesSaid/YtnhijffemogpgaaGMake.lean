/- Drawing rules: an earlier rule that is an integer (l4Integer). The contract of the model's FormatInt. Drawing rules: one more rule (l4Make), kind by kind. A drawn sequence between two parts. The names of drawn rules and of drawn parts are names, and differ. No program is walked here. Drawing rules: a sequence (l4Make, kind 6). A drawn choice between two alternatives. Drawing rules: a choice (l4Make, kind 7). Drawing whole descriptions: l4Make of every kind, l4Description, DrawDescription. Drawn descriptions are valid; the contract of DrawDescription. -/
import Derived.Test.YtnhijffemogpgaaGBase
import Derived.Test.YtnhijffemogpgaaGPu
import Derived.Test.YtnhijffemogpgaaGSz
import Derived.Deep.CutRange
import Derived.IntWalk
namespace Go.Proofs.Ytnhijffemogpgaa
open Go Go.RowKit
theorem int_drawC (a : Option Addr) (len cap c g capz : Nat) (zs : List Int) (w : World) (hl : len ≤ 140737488355328) (h1 : 1 ≤ zs.length) (h2 : zs.length ≤ 100000) (hc : Cur a len cap c w) (hg : g ≠ c)
    (hz : ∀ j, j < zs.length → w.cell? ⟨g, j, none⟩ = some (.int .i64 (zs.getD j 0))) :
    Calls Try.prog 69 #[.pointer (some ⟨c, 0, none⟩), .slice (some ⟨g, 0, none⟩) zs.length capz] w (DrawOut (fun x => x ∈ zs) a len cap c w) := by
  have HC := Lib.hid hc
  have HZ := Lib.hid hz
  clear hc hz
  go_enter Try.func69, Try.ntmps69
  go_wp2_with fail
  refine (below_draw a len cap c (zs.length : Int) _ hl (by omega) (by omega) HC.out).mono ?_
  rintro e w1 ⟨x, ⟨x0, x1⟩, rfl, hc1, hg1⟩
  have HC1 := Lib.hid hc1
  have HG1 := Lib.hid hg1
  clear hc1 hg1
  obtain ⟨k, rfl⟩ : ∃ k : Nat, x = (k : Int) := ⟨x.toNat, by omega⟩
  have hk : k < zs.length := by omega
  have hcell : w1.cell? ⟨g, k, none⟩ = some (.int .i64 (zs.getD k 0)) := HG1.out.cell (HZ.out k hk) (by simpa using hg)
  go_wp2_with fail
  go_ret
  refine ⟨_, ?_, rfl, HC1.out, HG1.out⟩
  simp
/-- x is the index of an integer. -/
def IntAt (rs : List RuleV) (x : Int) : Prop := ∃ (n : Nat) (h : n < rs.length), x = (n : Int) ∧ rs[n].kind = 1
theorem grown_of {w w' : World} {c : Nat} (h : Below w.heap.size w w') : w.grownBy w' (some c) := ⟨h.os, h.tape, h.output, h.size, fun k hk _ => h.block k hk⟩
set_option maxRecDepth 100000 in
set_option maxHeartbeats 1000000 in
theorem integer_draw (a : Option Addr) (len cap c : Nat) (ad : Option Addr) (rs : List RuleV) (capd : Nat) (w : World) (hl : len ≤ 140737488355328) (hrs : rs.length ≤ 1000) (h0 : 0 < rs.length) (hk0 : rs[0].kind = 1) (hrd : RdR ad rs w) (hc : Cur a len cap c w) :
    Calls Try.prog 88 #[.pointer (some ⟨c, 0, none⟩), .agg #[.slice ad rs.length capd]] w (DrawOut (IntAt rs) a len cap c w) := by
  obtain ⟨w0, hw0⟩ : ∃ w0, w0 = w.alloc (.cells #[.slice ad rs.length capd] 26) := ⟨_, rfl⟩
  have hB0 : Below w.heap.size w w0 := by subst hw0; exact (Below.refl _ _).alloc (Nat.le_refl _) _
  have hX0 : CellsAt w.heap.size [.slice ad rs.length capd] w0 := by subst hw0; exact CellsAt.new w _ _
  have HB0 := Lib.hid hB0
  have HX0 := Lib.hid hX0
  have HR := Lib.hid (hrd.below hB0)
  have HC := Lib.hid hc
  have hclt := hc.lt
  have hs0 : Hid (w0.heap.size = w.heap.size + 1) := by subst hw0; exact World.size_alloc _ _
  have hW := Lib.hid hw0
  have HK0 := Lib.hid hk0
  clear hrd hc hB0 hX0 hw0 hk0
  go_enter Try.func88, Try.ntmps88
  go_wp2
  rw [← hW.out]
  go_loopw [5, 6] (fun v i W => ∃ (k : Nat) (zs : List Int) (v0 : Value), k ≤ rs.length ∧ i = .int .i64 k ∧ v0 = v ∧ Hid (W.ownsRow w0.heap.size 3 1 v0 zs.length (zs.map (Value.int .i64))) ∧ Hid (∀ x ∈ zs, IntAt rs x) ∧ Hid (0 < k → zs ≠ []) ∧ zs.length ≤ k ∧ Hid (Below w0.heap.size w0 W)) (fun _ i _ => rs.length - (intOf i).toNat)
  case atStart =>
    refine ⟨0, [], _, Nat.zero_le _, rfl, rfl, ?_, fun x hx => by simp at hx, fun h => by omega, Nat.le_refl _, (Below.refl _ _).alloc (Nat.le_refl _) _⟩
    have hz : w0.heap.size = w.heap.size + 1 := hs0.out
    rw [← hz]
    exact World.ownsRow_made w0 #[] 0 (Nat.le_refl _) (Nat.zero_le _) rfl
  case round =>
    obtain ⟨k, zs, v0, hk, rfl, rfl, ho, hin, hne, hlen, hbw⟩ := hrel
    have k0 : (0 : Int) ≤ (k : Int) := by omega
    have bx := (HX0.out.below hbw.out 0 _ rfl).1
    by_cases hlt : k < rs.length
    · have k1 : (k : Int) < (rs.length : Int) := by omega
      obtain ⟨b, off, _, _, _, _, _, _, _, _, rfl, ⟨-, d1, -⟩, -⟩ := (HR.out.below hbw.out).at k hlt
      by_cases hkd : rs[k].kind = 1
      · have hin2 : Hid (∀ x ∈ zs ++ [(k : Int)], IntAt rs x) := fun x hx => by
          rcases List.mem_append.1 hx with hx | hx
          · exact hin.out x hx
          · simp at hx
            exact ⟨k, hlt, hx, hkd⟩
        rw [hkd] at d1
        clear hkd
        go_wp2_with (at_builtin; refine wp_pushF 36 3 (.int .i64 0) 8 Try.underlying36 infoInt rfl rfl (.tmp 22) (.tmp 24) rfl w0.heap.size v0 zs (k : Int) rfl wr (by simp [Act.eval]) (by simp [Act.eval]) ho.out (by unfold maxLen; omega) (by omega) hbw.out.size ?_)
        intro v' w' hown hgrow _
        have ho2 : Hid (w'.ownsRow w0.heap.size 3 1 v' (zs ++ [(k : Int)]).length ((zs ++ [(k : Int)]).map (Value.int .i64))) := by show World.ownsRow _ _ _ _ _ _ _; simpa using hown
        have hb2 := Lib.hid (hbw.out.grown hgrow hbw.out.size fun g hg => (World.ownsRow.lt (w := wr) ho.out g hg).1)
        clear hown hgrow
        go_wp2
        go_roundw
        case rel => exact ⟨k + 1, zs ++ [(k : Int)], v', by omega, by go_num, rfl, ho2, hin2, fun _ => by simp, by simp; omega, hb2⟩
        case measure => simp [intOf]; omega
      · have g1 : (rs[k].kind == 1) = false := by simpa using hkd
        have hne2 : Hid (0 < k + 1 → zs ≠ []) := fun _ => by
          refine hne.out ?_
          rcases Nat.eq_zero_or_pos k with e | e
          · subst e; exact absurd HK0.out hkd
          · exact e
        generalize rs[k].kind = kd at d1 g1
        clear hkd
        go_wp2
        go_roundw
        case rel => exact ⟨k + 1, zs, v0, by omega, by go_num, rfl, ho, hin, hne2, by omega, hbw⟩
        case measure => simp [intOf]; omega
    · have k1 : ¬ (k : Int) < (rs.length : Int) := by omega
      have hz1 : 1 ≤ zs.length := by
        have := hne.out (by omega)
        cases zs with
        | nil => exact absurd rfl this
        | cons _ _ => simp
      have hBW : Below w.heap.size w wr := HB0.out.trans (hbw.out.mono HB0.out.size)
      have HCW := Lib.hid (HC.out.below hBW)
      have HGW : Hid (w.grownBy wr (some c)) := grown_of hBW
      have hoo := ho.out
      rcases hoo.2 with ⟨_, hn⟩ | ⟨g, capz, cur, rfl, hbg, _⟩
      · omega
      · have hcells : Hid (∀ q, q < zs.length → wr.cell? ⟨g, q, none⟩ = some (.int .i64 (zs.getD q 0))) := fun q hq => by
          rw [hoo.cellAt q (by omega)]
          simp [hq]
        have hgc : g ≠ c := by have := hs0.out; omega
        clear hoo hBW
        go_wp2_with fail
        refine (int_drawC a len cap c g capz zs _ hl hz1 (by omega) HCW.out hgc hcells.out).mono ?_
        rintro e w2 ⟨x, hx, rfl, hc2, hg2⟩
        have hx2 := Lib.hid (hin.out x hx)
        have HC2 := Lib.hid hc2
        have HG2 := Lib.hid (Lib.grownBy_trans HGW.out hg2)
        clear hx hc2 hg2
        go_wp2
        go_ret
        exact ⟨x, hx2.out, rfl, HC2.out, HG2.out⟩
theorem Cur.put {a : Option Addr} {len cap c q i : Nat} {v : Value} {w : World} (h : Cur a len cap c w) (hq : q ≠ c) (hs : ∀ b off, a = some ⟨b, off, none⟩ → 0 < len → b ≠ q) : Cur a len cap c (w.setCell ⟨q, i, none⟩ v) := by
  obtain ⟨k, x, hk, c0, c1, c2, f1, f2, hsrc⟩ := h
  have other : ∀ {p : Addr} {u : Value}, w.cell? p = some u → p.block ≠ q → (w.setCell ⟨q, i, none⟩ v).cell? p = some u := fun hp hne => (World.cell?_setCell_other _ _ _ _ (fun e => hne (by rw [← e]))).trans hp
  refine ⟨k, x, hk, other c0 (fun e => hq e.symm), other c1 (fun e => hq e.symm), other c2 (fun e => hq e.symm), by simpa using f1, by simpa using f2, fun j hj => ?_⟩
  obtain ⟨b, off, y, ha, hne, hy, hc⟩ := hsrc j hj
  exact ⟨b, off, y, ha, hne, hy, other hc (hs b off ha (by omega))⟩
theorem Cur.old {a : Option Addr} {len cap c : Nat} {w : World} (h : Cur a len cap c w) : ∀ b off, a = some ⟨b, off, none⟩ → 0 < len → b < w.heap.size := fun b off ha hl => by
  obtain ⟨k, x, hk, c0, c1, c2, f1, f2, hsrc⟩ := h
  obtain ⟨b', off', y, ha', hne, hy, hc⟩ := hsrc 0 hl
  rw [ha] at ha'
  injection ha' with ha'
  injection ha' with e
  subst e
  exact cell_lt hc
theorem grown_put {w w' : World} {c q i : Nat} {v : Value} (h : w.grownBy w' (some c)) (hq : w.heap.size ≤ q) : w.grownBy (w'.setCell ⟨q, i, none⟩ v) (some c) := by
  have hs := grown_set (grown_refl w' q) i v
  exact ⟨hs.os.trans h.os, hs.tape.trans h.tape, hs.output.trans h.output, Nat.le_trans h.size hs.size, fun k hk hne => (hs.block k (Nat.lt_of_lt_of_le hk h.size) (by intro e; injection e with e; omega)).trans (h.block k hk hne)⟩
theorem grown_below' {w w' w'' : World} {c : Nat} (h : w.grownBy w' (some c)) (hb : Below w'.heap.size w' w'') : w.grownBy w'' (some c) := grown_below h hb
end Go.Proofs.Ytnhijffemogpgaa
namespace Go.Proofs.Ytnhijffemogpgaa
open Go Go.RowKit
set_option maxRecDepth 100000 in
theorem fmt_pos (n : Int) (w : World) (h0 : 0 < n) (h1 : n ≤ 9223372036854775807) :
    Calls Try.prog 87 #[.int .i64 n] w fun e w' => e = .returned (.string ⟨(Lib.itoa n).toArray⟩) ∧ Below w.heap.size w w' := by
  have hn : (n == 0) = false := by simp; omega
  go_enter Try.func87, Try.ntmps87
  go_wp2
  go_loopw [3, 4, 5] (fun s x d W => ∃ (m : Int) (l : List UInt8), 0 ≤ m ∧ m ≤ n ∧ x = .int .i64 m ∧ s = .string ⟨l.toArray⟩ ∧ Hid (digs m.natAbs ++ l = digs n.natAbs) ∧ Below w.heap.size w W) (fun _ x _ _ => (intOf x).toNat)
  case atStart => exact ⟨n, [], by omega, by omega, rfl, rfl, List.append_nil _, Below.refl _ _⟩
  case round =>
    obtain ⟨m, l, hm0, hm1, rfl, rfl, hl, hb⟩ := hrel
    by_cases hz : m = 0
    · subst hz
      have hnn : 0 ≤ n := by omega
      go_wp2
      go_ret
      refine ⟨?_, hb⟩
      rw [itoa_pos h0, ← hl.out]; rfl
    · have hne : (m != 0) = true := by simp; omega
      have hlen : l.length ≤ 20 := rest_length hl.out (by omega)
      have a1 : 0 ≤ m % 10 := by omega
      have a2 : m % 10 < 10 := by omega
      have a3 : 0 ≤ m / 10 := by omega
      have a4 : m / 10 < m := by omega
      have hl' := digs_next (by omega) hl
      have hc := conv_one wr (m % 10)
      have hadd := add_one (wr.alloc (.cells #[.int .u8 (48 + m % 10)] 5)) (dgt (m % 10)) l hlen
      go_wp2
      go_roundw
      case rel => exact ⟨m / 10, dgt (m % 10) :: l, by omega, by omega, rfl, rfl, hl', hb.alloc hb.size _⟩
      case measure => simp [intOf]; omega
theorem digs_next_neg {m : Int} {l : List UInt8} {u : Nat} (h0 : m < 0) (h : Hid (digs m.natAbs ++ l = digs u)) : Hid (digs (m.tdiv 10).natAbs ++ dgt (-m.tmod 10) :: l = digs u) := by
  have h' := h.out
  have e1 : m.tdiv 10 = -(((-m) / 10 : Int)) := by
    rw [show m = -(-m) by omega, Int.neg_tdiv, Int.tdiv_eq_ediv_of_nonneg (by omega), show - -(-m) = -m by omega]
  have e2 : m.tmod 10 = -(((-m) % 10 : Int)) := by
    rw [show m = -(-m) by omega, Int.neg_tmod, Int.tmod_eq_emod_of_nonneg (by omega), show - -(-m) = -m by omega]
  rw [digs_step (by omega)] at h'
  rw [e1, e2]
  rw [show m.natAbs / 10 = (-((-m) / 10)).natAbs by omega, show 48 + m.natAbs % 10 = (48 + - -((-m) % 10)).toNat by omega, List.append_assoc] at h'
  exact h'
theorem tm_bounds {m : Int} (h : m < 0) : -10 < m.tmod 10 ∧ m.tmod 10 ≤ 0 ∧ m < m.tdiv 10 ∧ m.tdiv 10 ≤ 0 := by
  have e1 : m.tdiv 10 = -(((-m) / 10 : Int)) := by
    rw [show m = -(-m) by omega, Int.neg_tdiv, Int.tdiv_eq_ediv_of_nonneg (by omega), show - -(-m) = -m by omega]
  have e2 : m.tmod 10 = -(((-m) % 10 : Int)) := by
    rw [show m = -(-m) by omega, Int.neg_tmod, Int.tmod_eq_emod_of_nonneg (by omega), show - -(-m) = -m by omega]
  rw [e1, e2]; omega
theorem add_sign (W : World) (l : List UInt8) (h : l.length ≤ 20) :
    (Op.stringOp .add ⟨#[45]⟩ ⟨l.toArray⟩).run Try.prog W = .ok (.string ⟨(45 :: l).toArray⟩) W := add_one W 45 l h
set_option maxRecDepth 100000 in
theorem fmt_neg (n : Int) (w : World) (h0 : n < 0) (h1 : -9223372036854775808 ≤ n) :
    Calls Try.prog 87 #[.int .i64 n] w fun e w' => e = .returned (.string ⟨(Lib.itoa n).toArray⟩) ∧ Below w.heap.size w w' := by
  have hn : (n == 0) = false := by simp; omega
  go_enter Try.func87, Try.ntmps87
  go_wp2
  go_loopw [3, 4, 5] (fun s x d W => ∃ (m : Int) (l : List UInt8), m ≤ 0 ∧ n ≤ m ∧ x = .int .i64 m ∧ s = .string ⟨l.toArray⟩ ∧ Hid (digs m.natAbs ++ l = digs n.natAbs) ∧ Below w.heap.size w W) (fun _ x _ _ => (-intOf x).toNat)
  case atStart => exact ⟨n, [], by omega, by omega, rfl, rfl, List.append_nil _, Below.refl _ _⟩
  case round =>
    obtain ⟨m, l, hm0, hm1, rfl, rfl, hl, hb⟩ := hrel
    have hlen : l.length ≤ 20 := rest_length hl.out (by omega)
    by_cases hz : m = 0
    · subst hz
      have hadd := add_sign wr l hlen
      go_wp2
      go_ret
      refine ⟨?_, hb⟩
      rw [itoa_neg h0, ← hl.out]; rfl
    · have hne : (m != 0) = true := by simp; omega
      obtain ⟨a1, a2, a3, a4⟩ := tm_bounds (m := m) (by omega)
      have hl' := digs_next_neg (by omega) hl
      have hc := conv_one wr (-m.tmod 10)
      have hadd := add_one (wr.alloc (.cells #[.int .u8 (48 + -m.tmod 10)] 5)) (dgt (-m.tmod 10)) l hlen
      by_cases hd : m.tmod 10 < 0
      · go_wp2
        go_roundw
        case rel => exact ⟨m.tdiv 10, dgt (-m.tmod 10) :: l, by omega, by omega, rfl, rfl, hl', hb.alloc hb.size _⟩
        case measure => simp [intOf]; omega
      · have hd0 : m.tmod 10 = 0 := by omega
        rw [hd0] at hl'
        clear hc hadd
        have hc : (convert 22 9 (.slice (some ⟨wr.heap.size, 0, none⟩) 1 1)).run Try.prog (wr.alloc (.cells #[.int .u8 48] 5)) = .ok (.string ⟨#[dgt (-0)]⟩) (wr.alloc (.cells #[.int .u8 48] 5)) := conv_one wr 0
        have hadd := add_one (wr.alloc (.cells #[.int .u8 48] 5)) (dgt (-0)) l hlen
        go_wp2
        go_roundw
        case rel => exact ⟨m.tdiv 10, dgt (-0) :: l, by omega, by omega, rfl, rfl, hl', hb.alloc hb.size _⟩
        case measure => simp [intOf]; omega
theorem fmt_zero (w : World) : Calls Try.prog 87 #[.int .i64 0] w fun e w' => e = .returned (.string ⟨(Lib.itoa 0).toArray⟩) ∧ Below w.heap.size w w' := by
  rw [itoa_zero]
  go_enter Try.func87, Try.ntmps87
  go_wp2
  go_ret
  exact ⟨rfl, Below.refl _ _⟩
theorem fmt_spec (n : Int) (w : World) (h0 : -9223372036854775808 ≤ n) (h1 : n ≤ 9223372036854775807) :
    Calls Try.prog 87 #[.int .i64 n] w fun e w' => e = .returned (.string ⟨(Lib.itoa n).toArray⟩) ∧ Below w.heap.size w w' := by
  rcases Int.lt_trichotomy n 0 with h | rfl | h
  · exact fmt_neg n w h h0
  · exact fmt_zero w
  · exact fmt_pos n w h h1
end Go.Proofs.Ytnhijffemogpgaa
namespace Go.Proofs.Ytnhijffemogpgaa
open Go Go.RowKit
/-- How the names of drawn rules begin. -/
def bases : List ByteArray := [⟨#[97]⟩, ⟨#[105, 116, 101, 109]⟩, ⟨#[98]⟩, ⟨#[104, 101, 97, 100]⟩, ⟨#[120]⟩]
def digitS (n : Nat) : ByteArray := ⟨(Lib.itoa (n : Int)).toArray⟩
/-- A rule that is drawn behind these rules. -/
def MadeR (rs : List RuleV) (r : RuleV) : Prop := (∃ s ∈ bases, r.name = s ++ digitS rs.length) ∧ kidsB r.kids (rs.length : Int) = true ∧ kindI rs r = true
/-- What holds while a drawn rule comes back. -/
def MakeP (a : Option Addr) (len cap c : Nat) (r : RuleV) (cs : List Value) (w W : World) : Prop := IsRule r cs W ∧ Cur a len cap c W ∧ w.grownBy W (some c)
theorem MakeP.put {a : Option Addr} {len cap c : Nat} {r : RuleV} {cs : List Value} {w W : World} (hb : ∀ b ∈ cs.flatMap sliceBlk, w.heap.size + 2 ≤ b) (hc : c < w.heap.size) (hs : ∀ b off, a = some ⟨b, off, none⟩ → 0 < len → b < w.heap.size) (i : Nat) (v : Value) (h : MakeP a len cap c r cs w W) : MakeP a len cap c r cs w (W.setCell ⟨w.heap.size + 1, i, none⟩ v) :=
  ⟨h.1.grown (grown_set (grown_refl W (w.heap.size + 1)) i v) (fun b hbb e => by injection e with e; have := hb b hbb; omega), h.2.1.put (by omega) (fun b off ha hl => by have := hs b off ha hl; omega), grown_put h.2.2 (by omega)⟩
/-- A drawn rule comes back. -/
def MakeOut (a : Option Addr) (len cap c : Nat) (rs : List RuleV) (k : Int) (w : World) (e : Ending) (w' : World) : Prop :=
  ∃ (r : RuleV) (cs : List Value), e = .returned (.agg cs.toArray) ∧ (MadeR rs r ∧ r.kind = k) ∧ Cap5 cs ∧ (∀ b ∈ cs.flatMap sliceBlk, w.heap.size ≤ b) ∧ MakeP a len cap c r cs w w'
theorem RowR.at {base : Nat} {ad : Option Addr} {rs : List RuleV} {n capd : Nat} {w : World} (h : RowR base (.slice ad n capd) rs w) : RdC ad rs w := by
  obtain ⟨a', c', e, hrd, _⟩ := h.rdc
  injection e with e1 e2 e3
  subst e1
  exact hrd
theorem addS (W : World) (x y : ByteArray) (h : x.size + y.size ≤ 9223372036854775807) : (Op.stringOp .add x y).run Try.prog W = .ok (.string (x ++ y)) W := run_string_add_sum W x y (by omega)
theorem digit_one : ∀ n : Fin 10, (digitS n.val).size = 1 := by decide +kernel
theorem base_size {s : ByteArray} (h : s ∈ bases) : s.size ≤ 4 := by
  unfold bases at h
  simp only [List.mem_cons, List.not_mem_nil, or_false] at h
  rcases h with rfl | rfl | rfl | rfl | rfl <;> decide
theorem intAt_kind {rs : List RuleV} {x : Int} (h : IntAt rs x) : kindAtB rs x = true := by
  obtain ⟨n, hn, rfl, hk⟩ := h
  unfold kindAtB
  rw [dif_pos (by omega)]
  simpa using hk
theorem cells_empty (nm : ByteArray) (kd sz : Int) (lt : Bool) (w : World) : IsRule ⟨nm, kd, sz, lt, [], [], [], []⟩ [.string nm, .int .i64 kd, .int .i64 sz, .bool lt, .slice none 0 0, .slice none 0 0, .slice none 0 0, .slice none 0 0] w :=
  ⟨none, 0, none, 0, none, 0, none, 0, rfl, fun j hj => by simp at hj, fun j hj => by simp at hj, fun j hj => by simp at hj, fun j hj => by simp at hj⟩

set_option maxRecDepth 100000 in
set_option maxHeartbeats 4000000 in
theorem make_3 (a : Option Addr) (len cap c base : Nat) (ad : Option Addr) (rs : List RuleV) (capd : Nat) (w : World) (hl : len ≤ 140737488355328) (hrs : rs.length ≤ 9) (hrow : RowR base (.slice ad rs.length capd) rs w) (hcb : c < base) (hbw : base ≤ w.heap.size) (hc : Cur a len cap c w) :
    Calls Try.prog 63 #[.pointer (some ⟨c, 0, none⟩), .agg #[.slice ad rs.length capd], .int .i64 3] w (MakeOut a len cap c rs 3 w) := by
  have hcw : c < w.heap.size := by omega
  have hold := Lib.hid hc.old
  have HROW := Lib.hid hrow
  obtain ⟨w0, hw0⟩ : ∃ w0, w0 = (w.alloc (.cells #[.slice ad rs.length capd] 26)).alloc (.cells #[.string ⟨#[]⟩, .int .i64 0, .int .i64 0, .bool false, .slice none 0 0, .slice none 0 0, .slice none 0 0, .slice none 0 0] 38) := ⟨_, rfl⟩
  have hB : Below w.heap.size w w0 := by subst hw0; exact ((Below.refl _ _).alloc (Nat.le_refl _) _).alloc (by simp) _
  have hX : CellsAt w.heap.size [.slice ad rs.length capd] w0 := by subst hw0; exact (CellsAt.new w _ _).below ((Below.refl _ _).alloc (Nat.le_refl _) _)
  have hZ : CellsAt (w.heap.size + 1) [.string ⟨#[]⟩, .int .i64 0, .int .i64 0, .bool false, .slice none 0 0, .slice none 0 0, .slice none 0 0, .slice none 0 0] w0 := by
    subst hw0
    have h1 := CellsAt.new (w.alloc (.cells #[.slice ad rs.length capd] 26)) [.string ⟨#[]⟩, .int .i64 0, .int .i64 0, .bool false, .slice none 0 0, .slice none 0 0, .slice none 0 0, .slice none 0 0] 38
    simpa using h1
  have hs0 : Hid (w0.heap.size = w.heap.size + 2) := by subst hw0; show _ = _; simp
  have HC := Lib.hid (hc.below hB)
  have HG : Hid (w.grownBy w0 (some c)) := grown_of hB
  have HX := Lib.hid hX
  have HZ := Lib.hid hZ
  have hW := Lib.hid hw0
  clear hc hB hX hZ hw0 hrow
  go_enter Try.func63, Try.ntmps63
  go_wp2_with fail
  rw [← hW.out, show w.heap.size + 1 + 1 = w0.heap.size from by rw [hs0.out]]
  clear hW
  refine (str_pick a len cap c 5 [⟨#[97]⟩, ⟨#[105, 116, 101, 109]⟩, ⟨#[98]⟩, ⟨#[104, 101, 97, 100]⟩, ⟨#[120]⟩] _ rfl rfl w0 hl (by omega) (by omega) HC.out).mono ?_
  rintro e w1 ⟨s, hs, rfl, hc1, hg⟩
  replace HG := Lib.hid (Lib.grownBy_trans HG.out hg)
  replace HX := Lib.hid (HX.out.grown hg (by intro e; injection e with e; omega))
  replace HZ := Lib.hid (HZ.out.grown hg (by intro e; injection e with e; omega))
  replace HC := Lib.hid hc1
  have hs1 := Lib.hid hg.size
  clear hc1 hg
  have hss : s.size ≤ 4 := base_size hs
  have hsb := Lib.hid hs
  clear hs
  go_wp2_with fail
  refine (fmt_spec (rs.length : Int) _ (by omega) (by omega)).mono ?_
  rintro e w2 ⟨rfl, hb⟩
  replace HG := Lib.hid (grown_below HG.out hb)
  replace HC := Lib.hid (HC.out.below hb)
  replace HX := Lib.hid (HX.out.below hb)
  replace HZ := Lib.hid (HZ.out.below hb)
  have hs2 := Lib.hid hb.size
  clear hb
  have hd1 : (digitS rs.length).size = 1 := digit_one ⟨rs.length, by omega⟩
  have hadd := addS w2 s (digitS rs.length) (by omega)
  obtain ⟨nm, hnm⟩ : ∃ nm, nm = s ++ digitS rs.length := ⟨_, rfl⟩
  rw [← hnm] at hadd
  have HNM := Lib.hid hnm
  clear hnm
  unfold digitS at hadd
  go_upto_region 10 with fail
  clear hadd
  obtain ⟨w3, hw3⟩ : ∃ w3, w3 = w2.alloc (.cells #[.string nm, .int .i64 3, .int .i64 0, .bool false, .slice none 0 0, .slice none 0 0, .slice none 0 0, .slice none 0 0] 38) := ⟨_, rfl⟩
  rw [← hw3]
  have hb : Below w2.heap.size w2 w3 := by subst hw3; exact (Below.refl _ _).alloc (Nat.le_refl _) _
  have hO : CellsAt w2.heap.size [.string nm, .int .i64 3, .int .i64 0, .bool false, .slice none 0 0, .slice none 0 0, .slice none 0 0, .slice none 0 0] w3 := by subst hw3; exact CellsAt.new w2 _ _
  replace HG := Lib.hid (grown_below HG.out hb)
  replace HC := Lib.hid (HC.out.below hb)
  replace HX := Lib.hid (HX.out.below hb)
  replace HZ := Lib.hid (HZ.out.below hb)
  have HO := Lib.hid hO
  have hN : w.heap.size + 2 ≤ w2.heap.size := by have := hs0.out; have := hs1.out; have := hs2.out; omega
  have hs3 : Hid (w2.heap.size < w3.heap.size) := cell_lt (hO 0 _ rfl).1
  clear hb hO hw3 hs0 hs1 hs2
  obtain ⟨N, hNN⟩ : ∃ N, N = w2.heap.size := ⟨_, rfl⟩
  rw [← hNN] at HO hN hs3 ⊢
  clear hNN
  go_wp2_with fail
  refine (below_draw a len cap c 4 _ hl (by omega) (by omega) HC.out).mono ?_
  rintro e w4 ⟨x, hx, rfl, hc1, hg⟩
  replace HG := Lib.hid (Lib.grownBy_trans HG.out hg)
  replace HX := Lib.hid (HX.out.grown hg (by intro e; injection e with e; omega))
  replace HZ := Lib.hid (HZ.out.grown hg (by intro e; injection e with e; omega))
  replace HO := Lib.hid (HO.out.grown hg (by intro e; injection e with e; omega))
  replace HC := Lib.hid hc1
  clear hc1 hg
  obtain ⟨x0, x1⟩ := hx
  obtain ⟨o2, p2⟩ := HO.out 2 _ rfl
  go_upto_region 33 with fail
  clear o2 p2
  obtain ⟨w5, hv⟩ : ∃ v, v = w4.setCell ⟨N, 2, none⟩ (.int .i64 (1 + x)) := ⟨_, rfl⟩
  rw [← hv]
  replace HO := Lib.hid (HO.out.set 2 (.int .i64 (1 + x)) (by simp))
  rw [← hv] at HO
  simp only [List.set] at HO
  replace HX := Lib.hid (HX.out.far (b' := N) (j := 2) (v := .int .i64 (1 + x)) (by omega))
  rw [← hv] at HX
  replace HZ := Lib.hid (HZ.out.far (b' := N) (j := 2) (v := .int .i64 (1 + x)) (by omega))
  rw [← hv] at HZ
  replace HC := Lib.hid (HC.out.put (q := N) (i := 2) (v := .int .i64 (1 + x)) (by omega) (fun b off ha hl => by have := hold.out b off ha hl; omega))
  rw [← hv] at HC
  replace HG := Lib.hid (grown_put (q := N) (i := 2) (v := .int .i64 (1 + x)) HG.out (by omega))
  rw [← hv] at HG
  clear hv
  obtain ⟨o0, -⟩ := HO.out 0 _ rfl
  obtain ⟨o1, -⟩ := HO.out 1 _ rfl
  obtain ⟨o2, -⟩ := HO.out 2 _ rfl
  obtain ⟨o3, -⟩ := HO.out 3 _ rfl
  obtain ⟨o4, -⟩ := HO.out 4 _ rfl
  obtain ⟨o5, -⟩ := HO.out 5 _ rfl
  obtain ⟨o6, -⟩ := HO.out 6 _ rfl
  obtain ⟨o7, -⟩ := HO.out 7 _ rfl
  obtain ⟨z0, t0⟩ := HZ.out 0 _ rfl
  obtain ⟨z1, t1⟩ := HZ.out 1 _ rfl
  obtain ⟨z2, t2⟩ := HZ.out 2 _ rfl
  obtain ⟨z3, t3⟩ := HZ.out 3 _ rfl
  obtain ⟨z4, t4⟩ := HZ.out 4 _ rfl
  obtain ⟨z5, t5⟩ := HZ.out 5 _ rfl
  obtain ⟨z6, t6⟩ := HZ.out 6 _ rfl
  obtain ⟨z7, t7⟩ := HZ.out 7 _ rfl
  have hmk : Hid (MakeP a len cap c ⟨nm, 3, 1 + x, false, [], [], [], []⟩ [.string nm, .int .i64 3, .int .i64 (1 + x), .bool false, .slice none 0 0, .slice none 0 0, .slice none 0 0, .slice none 0 0] w _) := ⟨cells_empty _ _ _ _ _, HC.out, HG.out⟩
  have hbl : Hid (∀ b ∈ ([.string nm, .int .i64 3, .int .i64 (1 + x), .bool false, .slice none 0 0, .slice none 0 0, .slice none 0 0, .slice none 0 0] : List Value).flatMap sliceBlk, w.heap.size + 2 ≤ b) := fun b hb => by simp [sliceBlk] at hb
  have hcp : Hid (Cap5 [.string nm, .int .i64 3, .int .i64 (1 + x), .bool false, .slice none 0 0, .slice none 0 0, .slice none 0 0, .slice none 0 0]) := fun a n c h => by simp at h; obtain ⟨_, rfl, rfl⟩ := h; exact Nat.le_refl _
  have hmd : Hid (MadeR rs ⟨nm, 3, 1 + x, false, [], [], [], []⟩) := ⟨⟨s, hsb.out, HNM.out⟩, by simp [kidsB], by simp [kindI, meetsB, onlyR, sameR]; omega⟩
  go_wp2
  (try simp only [Exit.inBlock, Exit.then])
  refine bodyPost_ret (v := .agg #[.string nm, .int .i64 3, .int .i64 (1 + x), .bool false, .slice none 0 0, .slice none 0 0, .slice none 0 0, .slice none 0 0]) ?_ rfl ?_
  · simp [results, Try.results63, go_sem, z0, z1, z2, z3, z4, z5, z6, z7]
  · exact ⟨_, _, rfl, ⟨hmd.out, rfl⟩, hcp.out, fun b hb => by have := hbl.out b hb; omega, ((((((((hmk.out.put hbl.out hcw hold.out 0 _).put hbl.out hcw hold.out 1 _).put hbl.out hcw hold.out 2 _).put hbl.out hcw hold.out 3 _).put hbl.out hcw hold.out 4 _).put hbl.out hcw hold.out 5 _).put hbl.out hcw hold.out 6 _).put hbl.out hcw hold.out 7 _)⟩
set_option maxRecDepth 100000 in
set_option maxHeartbeats 4000000 in
theorem make_1 (a : Option Addr) (len cap c base : Nat) (ad : Option Addr) (rs : List RuleV) (capd : Nat) (w : World) (hl : len ≤ 140737488355328) (hrs : rs.length ≤ 9) (hrow : RowR base (.slice ad rs.length capd) rs w) (hcb : c < base) (hbw : base ≤ w.heap.size) (hc : Cur a len cap c w) :
    Calls Try.prog 63 #[.pointer (some ⟨c, 0, none⟩), .agg #[.slice ad rs.length capd], .int .i64 1] w (MakeOut a len cap c rs 1 w) := by
  have hcw : c < w.heap.size := by omega
  have hold := Lib.hid hc.old
  have HROW := Lib.hid hrow
  obtain ⟨w0, hw0⟩ : ∃ w0, w0 = (w.alloc (.cells #[.slice ad rs.length capd] 26)).alloc (.cells #[.string ⟨#[]⟩, .int .i64 0, .int .i64 0, .bool false, .slice none 0 0, .slice none 0 0, .slice none 0 0, .slice none 0 0] 38) := ⟨_, rfl⟩
  have hB : Below w.heap.size w w0 := by subst hw0; exact ((Below.refl _ _).alloc (Nat.le_refl _) _).alloc (by simp) _
  have hX : CellsAt w.heap.size [.slice ad rs.length capd] w0 := by subst hw0; exact (CellsAt.new w _ _).below ((Below.refl _ _).alloc (Nat.le_refl _) _)
  have hZ : CellsAt (w.heap.size + 1) [.string ⟨#[]⟩, .int .i64 0, .int .i64 0, .bool false, .slice none 0 0, .slice none 0 0, .slice none 0 0, .slice none 0 0] w0 := by
    subst hw0
    have h1 := CellsAt.new (w.alloc (.cells #[.slice ad rs.length capd] 26)) [.string ⟨#[]⟩, .int .i64 0, .int .i64 0, .bool false, .slice none 0 0, .slice none 0 0, .slice none 0 0, .slice none 0 0] 38
    simpa using h1
  have hs0 : Hid (w0.heap.size = w.heap.size + 2) := by subst hw0; show _ = _; simp
  have HC := Lib.hid (hc.below hB)
  have HG : Hid (w.grownBy w0 (some c)) := grown_of hB
  have HX := Lib.hid hX
  have HZ := Lib.hid hZ
  have hW := Lib.hid hw0
  clear hc hB hX hZ hw0 hrow
  go_enter Try.func63, Try.ntmps63
  go_wp2_with fail
  rw [← hW.out, show w.heap.size + 1 + 1 = w0.heap.size from by rw [hs0.out]]
  clear hW
  refine (str_pick a len cap c 5 [⟨#[97]⟩, ⟨#[105, 116, 101, 109]⟩, ⟨#[98]⟩, ⟨#[104, 101, 97, 100]⟩, ⟨#[120]⟩] _ rfl rfl w0 hl (by omega) (by omega) HC.out).mono ?_
  rintro e w1 ⟨s, hs, rfl, hc1, hg⟩
  replace HG := Lib.hid (Lib.grownBy_trans HG.out hg)
  replace HX := Lib.hid (HX.out.grown hg (by intro e; injection e with e; omega))
  replace HZ := Lib.hid (HZ.out.grown hg (by intro e; injection e with e; omega))
  replace HC := Lib.hid hc1
  have hs1 := Lib.hid hg.size
  clear hc1 hg
  have hss : s.size ≤ 4 := base_size hs
  have hsb := Lib.hid hs
  clear hs
  go_wp2_with fail
  refine (fmt_spec (rs.length : Int) _ (by omega) (by omega)).mono ?_
  rintro e w2 ⟨rfl, hb⟩
  replace HG := Lib.hid (grown_below HG.out hb)
  replace HC := Lib.hid (HC.out.below hb)
  replace HX := Lib.hid (HX.out.below hb)
  replace HZ := Lib.hid (HZ.out.below hb)
  have hs2 := Lib.hid hb.size
  clear hb
  have hd1 : (digitS rs.length).size = 1 := digit_one ⟨rs.length, by omega⟩
  have hadd := addS w2 s (digitS rs.length) (by omega)
  obtain ⟨nm, hnm⟩ : ∃ nm, nm = s ++ digitS rs.length := ⟨_, rfl⟩
  rw [← hnm] at hadd
  have HNM := Lib.hid hnm
  clear hnm
  unfold digitS at hadd
  go_upto_region 5 with fail
  clear hadd
  obtain ⟨w3, hw3⟩ : ∃ w3, w3 = w2.alloc (.cells #[.string nm, .int .i64 1, .int .i64 0, .bool false, .slice none 0 0, .slice none 0 0, .slice none 0 0, .slice none 0 0] 38) := ⟨_, rfl⟩
  rw [← hw3]
  have hb : Below w2.heap.size w2 w3 := by subst hw3; exact (Below.refl _ _).alloc (Nat.le_refl _) _
  have hO : CellsAt w2.heap.size [.string nm, .int .i64 1, .int .i64 0, .bool false, .slice none 0 0, .slice none 0 0, .slice none 0 0, .slice none 0 0] w3 := by subst hw3; exact CellsAt.new w2 _ _
  replace HG := Lib.hid (grown_below HG.out hb)
  replace HC := Lib.hid (HC.out.below hb)
  replace HX := Lib.hid (HX.out.below hb)
  replace HZ := Lib.hid (HZ.out.below hb)
  have HO := Lib.hid hO
  have hN : w.heap.size + 2 ≤ w2.heap.size := by have := hs0.out; have := hs1.out; have := hs2.out; omega
  have hs3 : Hid (w2.heap.size < w3.heap.size) := cell_lt (hO 0 _ rfl).1
  clear hb hO hw3 hs0 hs1 hs2
  obtain ⟨N, hNN⟩ : ∃ N, N = w2.heap.size := ⟨_, rfl⟩
  rw [← hNN] at HO hN hs3 ⊢
  clear hNN
  go_wp2_with fail
  refine (below_draw a len cap c 3 _ hl (by omega) (by omega) HC.out).mono ?_
  rintro e w4 ⟨x, hx, rfl, hc1, hg⟩
  replace HG := Lib.hid (Lib.grownBy_trans HG.out hg)
  replace HX := Lib.hid (HX.out.grown hg (by intro e; injection e with e; omega))
  replace HZ := Lib.hid (HZ.out.grown hg (by intro e; injection e with e; omega))
  replace HO := Lib.hid (HO.out.grown hg (by intro e; injection e with e; omega))
  replace HC := Lib.hid hc1
  clear hc1 hg
  obtain ⟨x0, x1⟩ := hx
  obtain ⟨o2, p2⟩ := HO.out 2 _ rfl
  go_upto_region 6 with fail
  clear o2 p2
  obtain ⟨w5, hv⟩ : ∃ v, v = w4.setCell ⟨N, 2, none⟩ (.int .i64 (1 + x)) := ⟨_, rfl⟩
  rw [← hv]
  replace HO := Lib.hid (HO.out.set 2 (.int .i64 (1 + x)) (by simp))
  rw [← hv] at HO
  simp only [List.set] at HO
  replace HX := Lib.hid (HX.out.far (b' := N) (j := 2) (v := .int .i64 (1 + x)) (by omega))
  rw [← hv] at HX
  replace HZ := Lib.hid (HZ.out.far (b' := N) (j := 2) (v := .int .i64 (1 + x)) (by omega))
  rw [← hv] at HZ
  replace HC := Lib.hid (HC.out.put (q := N) (i := 2) (v := .int .i64 (1 + x)) (by omega) (fun b off ha hl => by have := hold.out b off ha hl; omega))
  rw [← hv] at HC
  replace HG := Lib.hid (grown_put (q := N) (i := 2) (v := .int .i64 (1 + x)) HG.out (by omega))
  rw [← hv] at HG
  clear hv
  obtain ⟨o2, p2⟩ := HO.out 2 _ rfl
  obtain ⟨o3, p3⟩ := HO.out 3 _ rfl
  by_cases hx : 1 < 1 + x
  case neg =>
    have g1 : decide ((1 : Int) < 1 + x) = false := decide_eq_false hx
    go_upto_region 33 with fail
    clear o2 p2 o3 p3
    obtain ⟨w6, hv⟩ : ∃ v, v = w5.setCell ⟨N, 3, none⟩ (.bool false) := ⟨_, rfl⟩
    rw [← hv]
    replace HO := Lib.hid (HO.out.set 3 (.bool false) (by simp))
    rw [← hv] at HO
    simp only [List.set] at HO
    replace HX := Lib.hid (HX.out.far (b' := N) (j := 3) (v := .bool false) (by omega))
    rw [← hv] at HX
    replace HZ := Lib.hid (HZ.out.far (b' := N) (j := 3) (v := .bool false) (by omega))
    rw [← hv] at HZ
    replace HC := Lib.hid (HC.out.put (q := N) (i := 3) (v := .bool false) (by omega) (fun b off ha hl => by have := hold.out b off ha hl; omega))
    rw [← hv] at HC
    replace HG := Lib.hid (grown_put (q := N) (i := 3) (v := .bool false) HG.out (by omega))
    rw [← hv] at HG
    clear hv
    obtain ⟨o0, -⟩ := HO.out 0 _ rfl
    obtain ⟨o1, -⟩ := HO.out 1 _ rfl
    obtain ⟨o2, -⟩ := HO.out 2 _ rfl
    obtain ⟨o3, -⟩ := HO.out 3 _ rfl
    obtain ⟨o4, -⟩ := HO.out 4 _ rfl
    obtain ⟨o5, -⟩ := HO.out 5 _ rfl
    obtain ⟨o6, -⟩ := HO.out 6 _ rfl
    obtain ⟨o7, -⟩ := HO.out 7 _ rfl
    obtain ⟨z0, t0⟩ := HZ.out 0 _ rfl
    obtain ⟨z1, t1⟩ := HZ.out 1 _ rfl
    obtain ⟨z2, t2⟩ := HZ.out 2 _ rfl
    obtain ⟨z3, t3⟩ := HZ.out 3 _ rfl
    obtain ⟨z4, t4⟩ := HZ.out 4 _ rfl
    obtain ⟨z5, t5⟩ := HZ.out 5 _ rfl
    obtain ⟨z6, t6⟩ := HZ.out 6 _ rfl
    obtain ⟨z7, t7⟩ := HZ.out 7 _ rfl
    have hmk : Hid (MakeP a len cap c ⟨nm, 1, 1 + x, false, [], [], [], []⟩ [.string nm, .int .i64 1, .int .i64 (1 + x), .bool false, .slice none 0 0, .slice none 0 0, .slice none 0 0, .slice none 0 0] w _) := ⟨cells_empty _ _ _ _ _, HC.out, HG.out⟩
    have hbl : Hid (∀ b ∈ ([.string nm, .int .i64 1, .int .i64 (1 + x), .bool false, .slice none 0 0, .slice none 0 0, .slice none 0 0, .slice none 0 0] : List Value).flatMap sliceBlk, w.heap.size + 2 ≤ b) := fun b hb => by simp [sliceBlk] at hb
    have hcp : Hid (Cap5 [.string nm, .int .i64 1, .int .i64 (1 + x), .bool false, .slice none 0 0, .slice none 0 0, .slice none 0 0, .slice none 0 0]) := fun a n c h => by simp at h; obtain ⟨_, rfl, rfl⟩ := h; exact Nat.le_refl _
    have hmd : Hid (MadeR rs ⟨nm, 1, 1 + x, false, [], [], [], []⟩) := ⟨⟨s, hsb.out, HNM.out⟩, by simp [kidsB], by simp [kindI, meetsB, onlyR, sameR]; omega⟩
    go_wp2
    (try simp only [Exit.inBlock, Exit.then])
    refine bodyPost_ret (v := .agg #[.string nm, .int .i64 1, .int .i64 (1 + x), .bool false, .slice none 0 0, .slice none 0 0, .slice none 0 0, .slice none 0 0]) ?_ rfl ?_
    · simp [results, Try.results63, go_sem, z0, z1, z2, z3, z4, z5, z6, z7]
    · exact ⟨_, _, rfl, ⟨hmd.out, rfl⟩, hcp.out, fun b hb => by have := hbl.out b hb; omega, ((((((((hmk.out.put hbl.out hcw hold.out 0 _).put hbl.out hcw hold.out 1 _).put hbl.out hcw hold.out 2 _).put hbl.out hcw hold.out 3 _).put hbl.out hcw hold.out 4 _).put hbl.out hcw hold.out 5 _).put hbl.out hcw hold.out 6 _).put hbl.out hcw hold.out 7 _)⟩
  have g1 : decide ((1 : Int) < 1 + x) = true := decide_eq_true hx
  go_wp2_with fail
  refine (once_draw a len cap c 2 _ hl (by omega) (by omega) HC.out).mono ?_
  rintro e w6 ⟨y, rfl, hc1, hg⟩
  replace HG := Lib.hid (Lib.grownBy_trans HG.out hg)
  replace HX := Lib.hid (HX.out.grown hg (by intro e; injection e with e; omega))
  replace HZ := Lib.hid (HZ.out.grown hg (by intro e; injection e with e; omega))
  replace HO := Lib.hid (HO.out.grown hg (by intro e; injection e with e; omega))
  replace HC := Lib.hid hc1
  clear hc1 hg o2 p2 o3 p3
  obtain ⟨o3, p3⟩ := HO.out 3 _ rfl
  go_upto_region 33 with fail
  clear o3 p3
  obtain ⟨w7, hv⟩ : ∃ v, v = w6.setCell ⟨N, 3, none⟩ (.bool y) := ⟨_, rfl⟩
  rw [← hv]
  replace HO := Lib.hid (HO.out.set 3 (.bool y) (by simp))
  rw [← hv] at HO
  simp only [List.set] at HO
  replace HX := Lib.hid (HX.out.far (b' := N) (j := 3) (v := .bool y) (by omega))
  rw [← hv] at HX
  replace HZ := Lib.hid (HZ.out.far (b' := N) (j := 3) (v := .bool y) (by omega))
  rw [← hv] at HZ
  replace HC := Lib.hid (HC.out.put (q := N) (i := 3) (v := .bool y) (by omega) (fun b off ha hl => by have := hold.out b off ha hl; omega))
  rw [← hv] at HC
  replace HG := Lib.hid (grown_put (q := N) (i := 3) (v := .bool y) HG.out (by omega))
  rw [← hv] at HG
  clear hv
  obtain ⟨o0, -⟩ := HO.out 0 _ rfl
  obtain ⟨o1, -⟩ := HO.out 1 _ rfl
  obtain ⟨o2, -⟩ := HO.out 2 _ rfl
  obtain ⟨o3, -⟩ := HO.out 3 _ rfl
  obtain ⟨o4, -⟩ := HO.out 4 _ rfl
  obtain ⟨o5, -⟩ := HO.out 5 _ rfl
  obtain ⟨o6, -⟩ := HO.out 6 _ rfl
  obtain ⟨o7, -⟩ := HO.out 7 _ rfl
  obtain ⟨z0, t0⟩ := HZ.out 0 _ rfl
  obtain ⟨z1, t1⟩ := HZ.out 1 _ rfl
  obtain ⟨z2, t2⟩ := HZ.out 2 _ rfl
  obtain ⟨z3, t3⟩ := HZ.out 3 _ rfl
  obtain ⟨z4, t4⟩ := HZ.out 4 _ rfl
  obtain ⟨z5, t5⟩ := HZ.out 5 _ rfl
  obtain ⟨z6, t6⟩ := HZ.out 6 _ rfl
  obtain ⟨z7, t7⟩ := HZ.out 7 _ rfl
  have hmk : Hid (MakeP a len cap c ⟨nm, 1, 1 + x, y, [], [], [], []⟩ [.string nm, .int .i64 1, .int .i64 (1 + x), .bool y, .slice none 0 0, .slice none 0 0, .slice none 0 0, .slice none 0 0] w _) := ⟨cells_empty _ _ _ _ _, HC.out, HG.out⟩
  have hbl : Hid (∀ b ∈ ([.string nm, .int .i64 1, .int .i64 (1 + x), .bool y, .slice none 0 0, .slice none 0 0, .slice none 0 0, .slice none 0 0] : List Value).flatMap sliceBlk, w.heap.size + 2 ≤ b) := fun b hb => by simp [sliceBlk] at hb
  have hcp : Hid (Cap5 [.string nm, .int .i64 1, .int .i64 (1 + x), .bool y, .slice none 0 0, .slice none 0 0, .slice none 0 0, .slice none 0 0]) := fun a n c h => by simp at h; obtain ⟨_, rfl, rfl⟩ := h; exact Nat.le_refl _
  have hmd : Hid (MadeR rs ⟨nm, 1, 1 + x, y, [], [], [], []⟩) := ⟨⟨s, hsb.out, HNM.out⟩, by simp [kidsB], by simp [kindI, meetsB, onlyR, sameR]; omega⟩
  go_wp2
  (try simp only [Exit.inBlock, Exit.then])
  refine bodyPost_ret (v := .agg #[.string nm, .int .i64 1, .int .i64 (1 + x), .bool y, .slice none 0 0, .slice none 0 0, .slice none 0 0, .slice none 0 0]) ?_ rfl ?_
  · simp [results, Try.results63, go_sem, z0, z1, z2, z3, z4, z5, z6, z7]
  · exact ⟨_, _, rfl, ⟨hmd.out, rfl⟩, hcp.out, fun b hb => by have := hbl.out b hb; omega, ((((((((hmk.out.put hbl.out hcw hold.out 0 _).put hbl.out hcw hold.out 1 _).put hbl.out hcw hold.out 2 _).put hbl.out hcw hold.out 3 _).put hbl.out hcw hold.out 4 _).put hbl.out hcw hold.out 5 _).put hbl.out hcw hold.out 6 _).put hbl.out hcw hold.out 7 _)⟩
set_option maxRecDepth 100000 in
set_option maxHeartbeats 4000000 in
theorem make_8 (a : Option Addr) (len cap c base : Nat) (ad : Option Addr) (rs : List RuleV) (capd : Nat) (w : World) (hl : len ≤ 140737488355328) (hrs : rs.length ≤ 9) (h0 : 0 < rs.length) (hk0 : rs[0].kind = 1) (hrow : RowR base (.slice ad rs.length capd) rs w) (hcb : c < base) (hbw : base ≤ w.heap.size) (hc : Cur a len cap c w) :
    Calls Try.prog 63 #[.pointer (some ⟨c, 0, none⟩), .agg #[.slice ad rs.length capd], .int .i64 8] w (MakeOut a len cap c rs 8 w) := by
  have hcw : c < w.heap.size := by omega
  have hold := Lib.hid hc.old
  have HROW := Lib.hid hrow
  obtain ⟨w0, hw0⟩ : ∃ w0, w0 = (w.alloc (.cells #[.slice ad rs.length capd] 26)).alloc (.cells #[.string ⟨#[]⟩, .int .i64 0, .int .i64 0, .bool false, .slice none 0 0, .slice none 0 0, .slice none 0 0, .slice none 0 0] 38) := ⟨_, rfl⟩
  have hB : Below w.heap.size w w0 := by subst hw0; exact ((Below.refl _ _).alloc (Nat.le_refl _) _).alloc (by simp) _
  have hX : CellsAt w.heap.size [.slice ad rs.length capd] w0 := by subst hw0; exact (CellsAt.new w _ _).below ((Below.refl _ _).alloc (Nat.le_refl _) _)
  have hZ : CellsAt (w.heap.size + 1) [.string ⟨#[]⟩, .int .i64 0, .int .i64 0, .bool false, .slice none 0 0, .slice none 0 0, .slice none 0 0, .slice none 0 0] w0 := by
    subst hw0
    have h1 := CellsAt.new (w.alloc (.cells #[.slice ad rs.length capd] 26)) [.string ⟨#[]⟩, .int .i64 0, .int .i64 0, .bool false, .slice none 0 0, .slice none 0 0, .slice none 0 0, .slice none 0 0] 38
    simpa using h1
  have hs0 : Hid (w0.heap.size = w.heap.size + 2) := by subst hw0; show _ = _; simp
  have HC := Lib.hid (hc.below hB)
  have HG : Hid (w.grownBy w0 (some c)) := grown_of hB
  have HX := Lib.hid hX
  have HZ := Lib.hid hZ
  have hW := Lib.hid hw0
  clear hc hB hX hZ hw0 hrow
  go_enter Try.func63, Try.ntmps63
  go_wp2_with fail
  rw [← hW.out, show w.heap.size + 1 + 1 = w0.heap.size from by rw [hs0.out]]
  clear hW
  refine (str_pick a len cap c 5 [⟨#[97]⟩, ⟨#[105, 116, 101, 109]⟩, ⟨#[98]⟩, ⟨#[104, 101, 97, 100]⟩, ⟨#[120]⟩] _ rfl rfl w0 hl (by omega) (by omega) HC.out).mono ?_
  rintro e w1 ⟨s, hs, rfl, hc1, hg⟩
  replace HG := Lib.hid (Lib.grownBy_trans HG.out hg)
  replace HX := Lib.hid (HX.out.grown hg (by intro e; injection e with e; omega))
  replace HZ := Lib.hid (HZ.out.grown hg (by intro e; injection e with e; omega))
  replace HC := Lib.hid hc1
  have hs1 := Lib.hid hg.size
  clear hc1 hg
  have hss : s.size ≤ 4 := base_size hs
  have hsb := Lib.hid hs
  clear hs
  go_wp2_with fail
  refine (fmt_spec (rs.length : Int) _ (by omega) (by omega)).mono ?_
  rintro e w2 ⟨rfl, hb⟩
  replace HG := Lib.hid (grown_below HG.out hb)
  replace HC := Lib.hid (HC.out.below hb)
  replace HX := Lib.hid (HX.out.below hb)
  replace HZ := Lib.hid (HZ.out.below hb)
  have hs2 := Lib.hid hb.size
  clear hb
  have hd1 : (digitS rs.length).size = 1 := digit_one ⟨rs.length, by omega⟩
  have hadd := addS w2 s (digitS rs.length) (by omega)
  obtain ⟨nm, hnm⟩ : ∃ nm, nm = s ++ digitS rs.length := ⟨_, rfl⟩
  rw [← hnm] at hadd
  have HNM := Lib.hid hnm
  clear hnm
  unfold digitS at hadd
  go_upto_region 30 with fail
  clear hadd
  obtain ⟨w3, hw3⟩ : ∃ w3, w3 = w2.alloc (.cells #[.string nm, .int .i64 8, .int .i64 0, .bool false, .slice none 0 0, .slice none 0 0, .slice none 0 0, .slice none 0 0] 38) := ⟨_, rfl⟩
  rw [← hw3]
  have hb : Below w2.heap.size w2 w3 := by subst hw3; exact (Below.refl _ _).alloc (Nat.le_refl _) _
  have hO : CellsAt w2.heap.size [.string nm, .int .i64 8, .int .i64 0, .bool false, .slice none 0 0, .slice none 0 0, .slice none 0 0, .slice none 0 0] w3 := by subst hw3; exact CellsAt.new w2 _ _
  replace HG := Lib.hid (grown_below HG.out hb)
  replace HC := Lib.hid (HC.out.below hb)
  replace HX := Lib.hid (HX.out.below hb)
  replace HZ := Lib.hid (HZ.out.below hb)
  have HO := Lib.hid hO
  have hN : w.heap.size + 2 ≤ w2.heap.size := by have := hs0.out; have := hs1.out; have := hs2.out; omega
  have hs3 : Hid (w2.heap.size < w3.heap.size) := cell_lt (hO 0 _ rfl).1
  clear hb hO hw3 hs0 hs1 hs2
  obtain ⟨N, hNN⟩ : ∃ N, N = w2.heap.size := ⟨_, rfl⟩
  rw [← hNN] at HO hN hs3 ⊢
  clear hNN
  have _ := hk0
  go_wp2_with fail
  refine (below_draw a len cap c (rs.length : Int) _ hl (by omega) (by omega) HC.out).mono ?_
  rintro e w4 ⟨x, hx, rfl, hc1, hg⟩
  replace HG := Lib.hid (Lib.grownBy_trans HG.out hg)
  replace HX := Lib.hid (HX.out.grown hg (by intro e; injection e with e; omega))
  replace HZ := Lib.hid (HZ.out.grown hg (by intro e; injection e with e; omega))
  replace HO := Lib.hid (HO.out.grown hg (by intro e; injection e with e; omega))
  replace HC := Lib.hid hc1
  clear hc1 hg
  obtain ⟨x0, x1⟩ := hx
  have hsz : N < w4.heap.size := cell_lt (HO.out 0 _ rfl).1
  have hbl0 : Below w4.heap.size w4 (w4.alloc (.cells #[.int .i64 x] 3)) := (Below.refl _ _).alloc (Nat.le_refl _) _
  obtain ⟨o7, p7⟩ := HO.out.below hbl0 7 _ rfl
  clear hbl0
  go_upto_region 33 with fail
  clear o7 p7
  have hKN : Hid (w4.heap.size ≠ N ∧ w.heap.size + 2 ≤ w4.heap.size) := ⟨by omega, by omega⟩
  have hszl : (w4.setCell ⟨N, 7, none⟩ (.slice (some ⟨w4.heap.size, 0, none⟩) 1 1)).heap.size = w4.heap.size := by simp
  obtain ⟨w5l, hv⟩ : ∃ v, v = w4.setCell ⟨N, 7, none⟩ (.slice (some ⟨w4.heap.size, 0, none⟩) 1 1) := ⟨_, rfl⟩
  rw [← hv]
  (try rw [← hv] at hszl)
  replace HO := Lib.hid (HO.out.set 7 (.slice (some ⟨w4.heap.size, 0, none⟩) 1 1) (by simp))
  rw [← hv] at HO
  simp only [List.set] at HO
  replace HX := Lib.hid (HX.out.far (b' := N) (j := 7) (v := .slice (some ⟨w4.heap.size, 0, none⟩) 1 1) (by omega))
  rw [← hv] at HX
  replace HZ := Lib.hid (HZ.out.far (b' := N) (j := 7) (v := .slice (some ⟨w4.heap.size, 0, none⟩) 1 1) (by omega))
  rw [← hv] at HZ
  replace HC := Lib.hid (HC.out.put (q := N) (i := 7) (v := .slice (some ⟨w4.heap.size, 0, none⟩) 1 1) (by omega) (fun b off ha hl => by have := hold.out b off ha hl; omega))
  rw [← hv] at HC
  replace HG := Lib.hid (grown_put (q := N) (i := 7) (v := .slice (some ⟨w4.heap.size, 0, none⟩) 1 1) HG.out (by omega))
  rw [← hv] at HG
  clear hv
  obtain ⟨w5, hvl⟩ : ∃ v, v = w5l.alloc (.cells #[.int .i64 x] 3) := ⟨_, rfl⟩
  rw [← hvl]
  have hb : Below w5l.heap.size w5l w5 := by subst hvl; exact (Below.refl _ _).alloc (Nat.le_refl _) _
  have hK : CellsAt w5l.heap.size [.int .i64 x] w5 := by subst hvl; exact CellsAt.new w5l _ _
  rw [hszl] at hK
  have HK2 := Lib.hid hK
  replace HG := Lib.hid (grown_below HG.out hb)
  replace HC := Lib.hid (HC.out.below hb)
  replace HX := Lib.hid (HX.out.below hb)
  replace HZ := Lib.hid (HZ.out.below hb)
  replace HO := Lib.hid (HO.out.below hb)
  clear hb hK hvl hszl
  have hkr : Hid (RdI (some ⟨w4.heap.size, 0, none⟩) [x] w5) := fun j hj => by
    obtain rfl : j = 0 := by simpa using hj
    exact ⟨_, 0, rfl, (HK2.out 0 _ rfl).1⟩
  obtain ⟨o0, -⟩ := HO.out 0 _ rfl
  obtain ⟨o1, -⟩ := HO.out 1 _ rfl
  obtain ⟨o2, -⟩ := HO.out 2 _ rfl
  obtain ⟨o3, -⟩ := HO.out 3 _ rfl
  obtain ⟨o4, -⟩ := HO.out 4 _ rfl
  obtain ⟨o5, -⟩ := HO.out 5 _ rfl
  obtain ⟨o6, -⟩ := HO.out 6 _ rfl
  obtain ⟨o7, -⟩ := HO.out 7 _ rfl
  obtain ⟨z0, t0⟩ := HZ.out 0 _ rfl
  obtain ⟨z1, t1⟩ := HZ.out 1 _ rfl
  obtain ⟨z2, t2⟩ := HZ.out 2 _ rfl
  obtain ⟨z3, t3⟩ := HZ.out 3 _ rfl
  obtain ⟨z4, t4⟩ := HZ.out 4 _ rfl
  obtain ⟨z5, t5⟩ := HZ.out 5 _ rfl
  obtain ⟨z6, t6⟩ := HZ.out 6 _ rfl
  obtain ⟨z7, t7⟩ := HZ.out 7 _ rfl
  have hmk : Hid (MakeP a len cap c ⟨nm, 8, 0, false, [], [], [], [x]⟩ [.string nm, .int .i64 8, .int .i64 0, .bool false, .slice none 0 0, .slice none 0 0, .slice none 0 0, .slice (some ⟨w4.heap.size, 0, none⟩) 1 1] w _) := ⟨⟨none, 0, none, 0, none, 0, some ⟨w4.heap.size, 0, none⟩, 1, rfl, fun j hj => by simp at hj, fun j hj => by simp at hj, fun j hj => by simp at hj, hkr.out⟩, HC.out, HG.out⟩
  have hbl : Hid (∀ b ∈ ([.string nm, .int .i64 8, .int .i64 0, .bool false, .slice none 0 0, .slice none 0 0, .slice none 0 0, .slice (some ⟨w4.heap.size, 0, none⟩) 1 1] : List Value).flatMap sliceBlk, w.heap.size + 2 ≤ b) := fun b hb => by simp [sliceBlk] at hb; subst hb; exact hKN.out.2
  have hcp : Hid (Cap5 [.string nm, .int .i64 8, .int .i64 0, .bool false, .slice none 0 0, .slice none 0 0, .slice none 0 0, .slice (some ⟨w4.heap.size, 0, none⟩) 1 1]) := fun a n c h => by simp at h; obtain ⟨_, rfl, rfl⟩ := h; exact Nat.le_refl _
  have hmd : Hid (MadeR rs ⟨nm, 8, 0, false, [], [], [], [x]⟩) := ⟨⟨s, hsb.out, HNM.out⟩, by simp [kidsB]; omega, by simp [kindI, meetsB, onlyR, sameR]⟩
  go_wp2
  (try simp only [Exit.inBlock, Exit.then])
  refine bodyPost_ret (v := .agg #[.string nm, .int .i64 8, .int .i64 0, .bool false, .slice none 0 0, .slice none 0 0, .slice none 0 0, .slice (some ⟨w4.heap.size, 0, none⟩) 1 1]) ?_ rfl ?_
  · simp [results, Try.results63, go_sem, z0, z1, z2, z3, z4, z5, z6, z7]
  · exact ⟨_, _, rfl, ⟨hmd.out, rfl⟩, hcp.out, fun b hb => by have := hbl.out b hb; omega, ((((((((hmk.out.put hbl.out hcw hold.out 0 _).put hbl.out hcw hold.out 1 _).put hbl.out hcw hold.out 2 _).put hbl.out hcw hold.out 3 _).put hbl.out hcw hold.out 4 _).put hbl.out hcw hold.out 5 _).put hbl.out hcw hold.out 6 _).put hbl.out hcw hold.out 7 _)⟩
set_option maxRecDepth 100000 in
set_option maxHeartbeats 4000000 in
theorem make_9 (a : Option Addr) (len cap c base : Nat) (ad : Option Addr) (rs : List RuleV) (capd : Nat) (w : World) (hl : len ≤ 140737488355328) (hrs : rs.length ≤ 9) (h0 : 0 < rs.length) (hk0 : rs[0].kind = 1) (hrow : RowR base (.slice ad rs.length capd) rs w) (hcb : c < base) (hbw : base ≤ w.heap.size) (hc : Cur a len cap c w) :
    Calls Try.prog 63 #[.pointer (some ⟨c, 0, none⟩), .agg #[.slice ad rs.length capd], .int .i64 9] w (MakeOut a len cap c rs 9 w) := by
  have hcw : c < w.heap.size := by omega
  have hold := Lib.hid hc.old
  have HROW := Lib.hid hrow
  obtain ⟨w0, hw0⟩ : ∃ w0, w0 = (w.alloc (.cells #[.slice ad rs.length capd] 26)).alloc (.cells #[.string ⟨#[]⟩, .int .i64 0, .int .i64 0, .bool false, .slice none 0 0, .slice none 0 0, .slice none 0 0, .slice none 0 0] 38) := ⟨_, rfl⟩
  have hB : Below w.heap.size w w0 := by subst hw0; exact ((Below.refl _ _).alloc (Nat.le_refl _) _).alloc (by simp) _
  have hX : CellsAt w.heap.size [.slice ad rs.length capd] w0 := by subst hw0; exact (CellsAt.new w _ _).below ((Below.refl _ _).alloc (Nat.le_refl _) _)
  have hZ : CellsAt (w.heap.size + 1) [.string ⟨#[]⟩, .int .i64 0, .int .i64 0, .bool false, .slice none 0 0, .slice none 0 0, .slice none 0 0, .slice none 0 0] w0 := by
    subst hw0
    have h1 := CellsAt.new (w.alloc (.cells #[.slice ad rs.length capd] 26)) [.string ⟨#[]⟩, .int .i64 0, .int .i64 0, .bool false, .slice none 0 0, .slice none 0 0, .slice none 0 0, .slice none 0 0] 38
    simpa using h1
  have hs0 : Hid (w0.heap.size = w.heap.size + 2) := by subst hw0; show _ = _; simp
  have HC := Lib.hid (hc.below hB)
  have HG : Hid (w.grownBy w0 (some c)) := grown_of hB
  have HX := Lib.hid hX
  have HZ := Lib.hid hZ
  have hW := Lib.hid hw0
  clear hc hB hX hZ hw0 hrow
  go_enter Try.func63, Try.ntmps63
  go_wp2_with fail
  rw [← hW.out, show w.heap.size + 1 + 1 = w0.heap.size from by rw [hs0.out]]
  clear hW
  refine (str_pick a len cap c 5 [⟨#[97]⟩, ⟨#[105, 116, 101, 109]⟩, ⟨#[98]⟩, ⟨#[104, 101, 97, 100]⟩, ⟨#[120]⟩] _ rfl rfl w0 hl (by omega) (by omega) HC.out).mono ?_
  rintro e w1 ⟨s, hs, rfl, hc1, hg⟩
  replace HG := Lib.hid (Lib.grownBy_trans HG.out hg)
  replace HX := Lib.hid (HX.out.grown hg (by intro e; injection e with e; omega))
  replace HZ := Lib.hid (HZ.out.grown hg (by intro e; injection e with e; omega))
  replace HC := Lib.hid hc1
  have hs1 := Lib.hid hg.size
  clear hc1 hg
  have hss : s.size ≤ 4 := base_size hs
  have hsb := Lib.hid hs
  clear hs
  go_wp2_with fail
  refine (fmt_spec (rs.length : Int) _ (by omega) (by omega)).mono ?_
  rintro e w2 ⟨rfl, hb⟩
  replace HG := Lib.hid (grown_below HG.out hb)
  replace HC := Lib.hid (HC.out.below hb)
  replace HX := Lib.hid (HX.out.below hb)
  replace HZ := Lib.hid (HZ.out.below hb)
  have hs2 := Lib.hid hb.size
  clear hb
  have hd1 : (digitS rs.length).size = 1 := digit_one ⟨rs.length, by omega⟩
  have hadd := addS w2 s (digitS rs.length) (by omega)
  obtain ⟨nm, hnm⟩ : ∃ nm, nm = s ++ digitS rs.length := ⟨_, rfl⟩
  rw [← hnm] at hadd
  have HNM := Lib.hid hnm
  clear hnm
  unfold digitS at hadd
  go_upto_region 30 with fail
  clear hadd
  obtain ⟨w3, hw3⟩ : ∃ w3, w3 = w2.alloc (.cells #[.string nm, .int .i64 9, .int .i64 0, .bool false, .slice none 0 0, .slice none 0 0, .slice none 0 0, .slice none 0 0] 38) := ⟨_, rfl⟩
  rw [← hw3]
  have hb : Below w2.heap.size w2 w3 := by subst hw3; exact (Below.refl _ _).alloc (Nat.le_refl _) _
  have hO : CellsAt w2.heap.size [.string nm, .int .i64 9, .int .i64 0, .bool false, .slice none 0 0, .slice none 0 0, .slice none 0 0, .slice none 0 0] w3 := by subst hw3; exact CellsAt.new w2 _ _
  replace HG := Lib.hid (grown_below HG.out hb)
  replace HC := Lib.hid (HC.out.below hb)
  replace HX := Lib.hid (HX.out.below hb)
  replace HZ := Lib.hid (HZ.out.below hb)
  have HO := Lib.hid hO
  have hN : w.heap.size + 2 ≤ w2.heap.size := by have := hs0.out; have := hs1.out; have := hs2.out; omega
  have hs3 : Hid (w2.heap.size < w3.heap.size) := cell_lt (hO 0 _ rfl).1
  clear hb hO hw3 hs0 hs1 hs2
  obtain ⟨N, hNN⟩ : ∃ N, N = w2.heap.size := ⟨_, rfl⟩
  rw [← hNN] at HO hN hs3 ⊢
  clear hNN
  have _ := hk0
  go_wp2_with fail
  refine (below_draw a len cap c (rs.length : Int) _ hl (by omega) (by omega) HC.out).mono ?_
  rintro e w4 ⟨x, hx, rfl, hc1, hg⟩
  replace HG := Lib.hid (Lib.grownBy_trans HG.out hg)
  replace HX := Lib.hid (HX.out.grown hg (by intro e; injection e with e; omega))
  replace HZ := Lib.hid (HZ.out.grown hg (by intro e; injection e with e; omega))
  replace HO := Lib.hid (HO.out.grown hg (by intro e; injection e with e; omega))
  replace HC := Lib.hid hc1
  clear hc1 hg
  obtain ⟨x0, x1⟩ := hx
  have hsz : N < w4.heap.size := cell_lt (HO.out 0 _ rfl).1
  have hbl0 : Below w4.heap.size w4 (w4.alloc (.cells #[.int .i64 x] 3)) := (Below.refl _ _).alloc (Nat.le_refl _) _
  obtain ⟨o7, p7⟩ := HO.out.below hbl0 7 _ rfl
  clear hbl0
  go_upto_region 33 with fail
  clear o7 p7
  have hKN : Hid (w4.heap.size ≠ N ∧ w.heap.size + 2 ≤ w4.heap.size) := ⟨by omega, by omega⟩
  have hszl : (w4.setCell ⟨N, 7, none⟩ (.slice (some ⟨w4.heap.size, 0, none⟩) 1 1)).heap.size = w4.heap.size := by simp
  obtain ⟨w5l, hv⟩ : ∃ v, v = w4.setCell ⟨N, 7, none⟩ (.slice (some ⟨w4.heap.size, 0, none⟩) 1 1) := ⟨_, rfl⟩
  rw [← hv]
  (try rw [← hv] at hszl)
  replace HO := Lib.hid (HO.out.set 7 (.slice (some ⟨w4.heap.size, 0, none⟩) 1 1) (by simp))
  rw [← hv] at HO
  simp only [List.set] at HO
  replace HX := Lib.hid (HX.out.far (b' := N) (j := 7) (v := .slice (some ⟨w4.heap.size, 0, none⟩) 1 1) (by omega))
  rw [← hv] at HX
  replace HZ := Lib.hid (HZ.out.far (b' := N) (j := 7) (v := .slice (some ⟨w4.heap.size, 0, none⟩) 1 1) (by omega))
  rw [← hv] at HZ
  replace HC := Lib.hid (HC.out.put (q := N) (i := 7) (v := .slice (some ⟨w4.heap.size, 0, none⟩) 1 1) (by omega) (fun b off ha hl => by have := hold.out b off ha hl; omega))
  rw [← hv] at HC
  replace HG := Lib.hid (grown_put (q := N) (i := 7) (v := .slice (some ⟨w4.heap.size, 0, none⟩) 1 1) HG.out (by omega))
  rw [← hv] at HG
  clear hv
  obtain ⟨w5, hvl⟩ : ∃ v, v = w5l.alloc (.cells #[.int .i64 x] 3) := ⟨_, rfl⟩
  rw [← hvl]
  have hb : Below w5l.heap.size w5l w5 := by subst hvl; exact (Below.refl _ _).alloc (Nat.le_refl _) _
  have hK : CellsAt w5l.heap.size [.int .i64 x] w5 := by subst hvl; exact CellsAt.new w5l _ _
  rw [hszl] at hK
  have HK2 := Lib.hid hK
  replace HG := Lib.hid (grown_below HG.out hb)
  replace HC := Lib.hid (HC.out.below hb)
  replace HX := Lib.hid (HX.out.below hb)
  replace HZ := Lib.hid (HZ.out.below hb)
  replace HO := Lib.hid (HO.out.below hb)
  clear hb hK hvl hszl
  have hkr : Hid (RdI (some ⟨w4.heap.size, 0, none⟩) [x] w5) := fun j hj => by
    obtain rfl : j = 0 := by simpa using hj
    exact ⟨_, 0, rfl, (HK2.out 0 _ rfl).1⟩
  obtain ⟨o0, -⟩ := HO.out 0 _ rfl
  obtain ⟨o1, -⟩ := HO.out 1 _ rfl
  obtain ⟨o2, -⟩ := HO.out 2 _ rfl
  obtain ⟨o3, -⟩ := HO.out 3 _ rfl
  obtain ⟨o4, -⟩ := HO.out 4 _ rfl
  obtain ⟨o5, -⟩ := HO.out 5 _ rfl
  obtain ⟨o6, -⟩ := HO.out 6 _ rfl
  obtain ⟨o7, -⟩ := HO.out 7 _ rfl
  obtain ⟨z0, t0⟩ := HZ.out 0 _ rfl
  obtain ⟨z1, t1⟩ := HZ.out 1 _ rfl
  obtain ⟨z2, t2⟩ := HZ.out 2 _ rfl
  obtain ⟨z3, t3⟩ := HZ.out 3 _ rfl
  obtain ⟨z4, t4⟩ := HZ.out 4 _ rfl
  obtain ⟨z5, t5⟩ := HZ.out 5 _ rfl
  obtain ⟨z6, t6⟩ := HZ.out 6 _ rfl
  obtain ⟨z7, t7⟩ := HZ.out 7 _ rfl
  have hmk : Hid (MakeP a len cap c ⟨nm, 9, 0, false, [], [], [], [x]⟩ [.string nm, .int .i64 9, .int .i64 0, .bool false, .slice none 0 0, .slice none 0 0, .slice none 0 0, .slice (some ⟨w4.heap.size, 0, none⟩) 1 1] w _) := ⟨⟨none, 0, none, 0, none, 0, some ⟨w4.heap.size, 0, none⟩, 1, rfl, fun j hj => by simp at hj, fun j hj => by simp at hj, fun j hj => by simp at hj, hkr.out⟩, HC.out, HG.out⟩
  have hbl : Hid (∀ b ∈ ([.string nm, .int .i64 9, .int .i64 0, .bool false, .slice none 0 0, .slice none 0 0, .slice none 0 0, .slice (some ⟨w4.heap.size, 0, none⟩) 1 1] : List Value).flatMap sliceBlk, w.heap.size + 2 ≤ b) := fun b hb => by simp [sliceBlk] at hb; subst hb; exact hKN.out.2
  have hcp : Hid (Cap5 [.string nm, .int .i64 9, .int .i64 0, .bool false, .slice none 0 0, .slice none 0 0, .slice none 0 0, .slice (some ⟨w4.heap.size, 0, none⟩) 1 1]) := fun a n c h => by simp at h; obtain ⟨_, rfl, rfl⟩ := h; exact Nat.le_refl _
  have hmd : Hid (MadeR rs ⟨nm, 9, 0, false, [], [], [], [x]⟩) := ⟨⟨s, hsb.out, HNM.out⟩, by simp [kidsB]; omega, by simp [kindI, meetsB, onlyR, sameR]⟩
  go_wp2
  (try simp only [Exit.inBlock, Exit.then])
  refine bodyPost_ret (v := .agg #[.string nm, .int .i64 9, .int .i64 0, .bool false, .slice none 0 0, .slice none 0 0, .slice none 0 0, .slice (some ⟨w4.heap.size, 0, none⟩) 1 1]) ?_ rfl ?_
  · simp [results, Try.results63, go_sem, z0, z1, z2, z3, z4, z5, z6, z7]
  · exact ⟨_, _, rfl, ⟨hmd.out, rfl⟩, hcp.out, fun b hb => by have := hbl.out b hb; omega, ((((((((hmk.out.put hbl.out hcw hold.out 0 _).put hbl.out hcw hold.out 1 _).put hbl.out hcw hold.out 2 _).put hbl.out hcw hold.out 3 _).put hbl.out hcw hold.out 4 _).put hbl.out hcw hold.out 5 _).put hbl.out hcw hold.out 6 _).put hbl.out hcw hold.out 7 _)⟩
set_option maxRecDepth 100000 in
set_option maxHeartbeats 4000000 in
theorem make_4 (a : Option Addr) (len cap c base : Nat) (ad : Option Addr) (rs : List RuleV) (capd : Nat) (w : World) (hl : len ≤ 140737488355328) (hrs : rs.length ≤ 9) (h0 : 0 < rs.length) (hk0 : rs[0].kind = 1) (hrow : RowR base (.slice ad rs.length capd) rs w) (hcb : c < base) (hbw : base ≤ w.heap.size) (hc : Cur a len cap c w) :
    Calls Try.prog 63 #[.pointer (some ⟨c, 0, none⟩), .agg #[.slice ad rs.length capd], .int .i64 4] w (MakeOut a len cap c rs 4 w) := by
  have hcw : c < w.heap.size := by omega
  have hold := Lib.hid hc.old
  have HROW := Lib.hid hrow
  obtain ⟨w0, hw0⟩ : ∃ w0, w0 = (w.alloc (.cells #[.slice ad rs.length capd] 26)).alloc (.cells #[.string ⟨#[]⟩, .int .i64 0, .int .i64 0, .bool false, .slice none 0 0, .slice none 0 0, .slice none 0 0, .slice none 0 0] 38) := ⟨_, rfl⟩
  have hB : Below w.heap.size w w0 := by subst hw0; exact ((Below.refl _ _).alloc (Nat.le_refl _) _).alloc (by simp) _
  have hX : CellsAt w.heap.size [.slice ad rs.length capd] w0 := by subst hw0; exact (CellsAt.new w _ _).below ((Below.refl _ _).alloc (Nat.le_refl _) _)
  have hZ : CellsAt (w.heap.size + 1) [.string ⟨#[]⟩, .int .i64 0, .int .i64 0, .bool false, .slice none 0 0, .slice none 0 0, .slice none 0 0, .slice none 0 0] w0 := by
    subst hw0
    have h1 := CellsAt.new (w.alloc (.cells #[.slice ad rs.length capd] 26)) [.string ⟨#[]⟩, .int .i64 0, .int .i64 0, .bool false, .slice none 0 0, .slice none 0 0, .slice none 0 0, .slice none 0 0] 38
    simpa using h1
  have hs0 : Hid (w0.heap.size = w.heap.size + 2) := by subst hw0; show _ = _; simp
  have HC := Lib.hid (hc.below hB)
  have HG : Hid (w.grownBy w0 (some c)) := grown_of hB
  have HX := Lib.hid hX
  have HZ := Lib.hid hZ
  have hW := Lib.hid hw0
  clear hc hB hX hZ hw0 hrow
  go_enter Try.func63, Try.ntmps63
  go_wp2_with fail
  rw [← hW.out, show w.heap.size + 1 + 1 = w0.heap.size from by rw [hs0.out]]
  clear hW
  refine (str_pick a len cap c 5 [⟨#[97]⟩, ⟨#[105, 116, 101, 109]⟩, ⟨#[98]⟩, ⟨#[104, 101, 97, 100]⟩, ⟨#[120]⟩] _ rfl rfl w0 hl (by omega) (by omega) HC.out).mono ?_
  rintro e w1 ⟨s, hs, rfl, hc1, hg⟩
  replace HG := Lib.hid (Lib.grownBy_trans HG.out hg)
  replace HX := Lib.hid (HX.out.grown hg (by intro e; injection e with e; omega))
  replace HZ := Lib.hid (HZ.out.grown hg (by intro e; injection e with e; omega))
  replace HC := Lib.hid hc1
  have hs1 := Lib.hid hg.size
  clear hc1 hg
  have hss : s.size ≤ 4 := base_size hs
  have hsb := Lib.hid hs
  clear hs
  go_wp2_with fail
  refine (fmt_spec (rs.length : Int) _ (by omega) (by omega)).mono ?_
  rintro e w2 ⟨rfl, hb⟩
  replace HG := Lib.hid (grown_below HG.out hb)
  replace HC := Lib.hid (HC.out.below hb)
  replace HX := Lib.hid (HX.out.below hb)
  replace HZ := Lib.hid (HZ.out.below hb)
  have hs2 := Lib.hid hb.size
  clear hb
  have hd1 : (digitS rs.length).size = 1 := digit_one ⟨rs.length, by omega⟩
  have hadd := addS w2 s (digitS rs.length) (by omega)
  obtain ⟨nm, hnm⟩ : ∃ nm, nm = s ++ digitS rs.length := ⟨_, rfl⟩
  rw [← hnm] at hadd
  have HNM := Lib.hid hnm
  clear hnm
  unfold digitS at hadd
  go_upto_region 12 with fail
  clear hadd
  obtain ⟨w3, hw3⟩ : ∃ w3, w3 = w2.alloc (.cells #[.string nm, .int .i64 4, .int .i64 0, .bool false, .slice none 0 0, .slice none 0 0, .slice none 0 0, .slice none 0 0] 38) := ⟨_, rfl⟩
  rw [← hw3]
  have hb : Below w2.heap.size w2 w3 := by subst hw3; exact (Below.refl _ _).alloc (Nat.le_refl _) _
  have hO : CellsAt w2.heap.size [.string nm, .int .i64 4, .int .i64 0, .bool false, .slice none 0 0, .slice none 0 0, .slice none 0 0, .slice none 0 0] w3 := by subst hw3; exact CellsAt.new w2 _ _
  replace HG := Lib.hid (grown_below HG.out hb)
  replace HC := Lib.hid (HC.out.below hb)
  replace HX := Lib.hid (HX.out.below hb)
  replace HZ := Lib.hid (HZ.out.below hb)
  have HO := Lib.hid hO
  have hN : w.heap.size + 2 ≤ w2.heap.size := by have := hs0.out; have := hs1.out; have := hs2.out; omega
  have hs3 : Hid (w2.heap.size < w3.heap.size) := cell_lt (hO 0 _ rfl).1
  clear hb hO hw3 hs0 hs1 hs2
  obtain ⟨N, hNN⟩ : ∃ N, N = w2.heap.size := ⟨_, rfl⟩
  rw [← hNN] at HO hN hs3 ⊢
  clear hNN
  have bx := (HX.out 0 _ rfl).1
  go_wp2_with fail
  refine (integer_draw a len cap c ad rs capd _ hl (by omega) h0 hk0 (HROW.out.grown HG.out hcb).at.rd HC.out).mono ?_
  rintro e w4 ⟨x, hx, rfl, hc1, hg⟩
  replace HG := Lib.hid (Lib.grownBy_trans HG.out hg)
  replace HX := Lib.hid (HX.out.grown hg (by intro e; injection e with e; omega))
  replace HZ := Lib.hid (HZ.out.grown hg (by intro e; injection e with e; omega))
  replace HO := Lib.hid (HO.out.grown hg (by intro e; injection e with e; omega))
  replace HC := Lib.hid hc1
  clear hc1 hg
  clear bx
  have hka := Lib.hid (intAt_kind hx)
  obtain ⟨m, hm, rfl, _⟩ := hx
  have hsz : N < w4.heap.size := cell_lt (HO.out 0 _ rfl).1
  have hbl0 : Below w4.heap.size w4 (w4.alloc (.cells #[.int .i64 (m : Int)] 3)) := (Below.refl _ _).alloc (Nat.le_refl _) _
  obtain ⟨o7, p7⟩ := HO.out.below hbl0 7 _ rfl
  clear hbl0
  go_upto_region 33 with fail
  clear o7 p7
  have hKN : Hid (w4.heap.size ≠ N ∧ w.heap.size + 2 ≤ w4.heap.size) := ⟨by omega, by omega⟩
  have hszl : (w4.setCell ⟨N, 7, none⟩ (.slice (some ⟨w4.heap.size, 0, none⟩) 1 1)).heap.size = w4.heap.size := by simp
  obtain ⟨w5l, hv⟩ : ∃ v, v = w4.setCell ⟨N, 7, none⟩ (.slice (some ⟨w4.heap.size, 0, none⟩) 1 1) := ⟨_, rfl⟩
  rw [← hv]
  (try rw [← hv] at hszl)
  replace HO := Lib.hid (HO.out.set 7 (.slice (some ⟨w4.heap.size, 0, none⟩) 1 1) (by simp))
  rw [← hv] at HO
  simp only [List.set] at HO
  replace HX := Lib.hid (HX.out.far (b' := N) (j := 7) (v := .slice (some ⟨w4.heap.size, 0, none⟩) 1 1) (by omega))
  rw [← hv] at HX
  replace HZ := Lib.hid (HZ.out.far (b' := N) (j := 7) (v := .slice (some ⟨w4.heap.size, 0, none⟩) 1 1) (by omega))
  rw [← hv] at HZ
  replace HC := Lib.hid (HC.out.put (q := N) (i := 7) (v := .slice (some ⟨w4.heap.size, 0, none⟩) 1 1) (by omega) (fun b off ha hl => by have := hold.out b off ha hl; omega))
  rw [← hv] at HC
  replace HG := Lib.hid (grown_put (q := N) (i := 7) (v := .slice (some ⟨w4.heap.size, 0, none⟩) 1 1) HG.out (by omega))
  rw [← hv] at HG
  clear hv
  obtain ⟨w5, hvl⟩ : ∃ v, v = w5l.alloc (.cells #[.int .i64 (m : Int)] 3) := ⟨_, rfl⟩
  rw [← hvl]
  have hb : Below w5l.heap.size w5l w5 := by subst hvl; exact (Below.refl _ _).alloc (Nat.le_refl _) _
  have hK : CellsAt w5l.heap.size [.int .i64 (m : Int)] w5 := by subst hvl; exact CellsAt.new w5l _ _
  rw [hszl] at hK
  have HK2 := Lib.hid hK
  replace HG := Lib.hid (grown_below HG.out hb)
  replace HC := Lib.hid (HC.out.below hb)
  replace HX := Lib.hid (HX.out.below hb)
  replace HZ := Lib.hid (HZ.out.below hb)
  replace HO := Lib.hid (HO.out.below hb)
  clear hb hK hvl hszl
  have hkr : Hid (RdI (some ⟨w4.heap.size, 0, none⟩) [(m : Int)] w5) := fun j hj => by
    obtain rfl : j = 0 := by simpa using hj
    exact ⟨_, 0, rfl, (HK2.out 0 _ rfl).1⟩
  obtain ⟨o0, -⟩ := HO.out 0 _ rfl
  obtain ⟨o1, -⟩ := HO.out 1 _ rfl
  obtain ⟨o2, -⟩ := HO.out 2 _ rfl
  obtain ⟨o3, -⟩ := HO.out 3 _ rfl
  obtain ⟨o4, -⟩ := HO.out 4 _ rfl
  obtain ⟨o5, -⟩ := HO.out 5 _ rfl
  obtain ⟨o6, -⟩ := HO.out 6 _ rfl
  obtain ⟨o7, -⟩ := HO.out 7 _ rfl
  obtain ⟨z0, t0⟩ := HZ.out 0 _ rfl
  obtain ⟨z1, t1⟩ := HZ.out 1 _ rfl
  obtain ⟨z2, t2⟩ := HZ.out 2 _ rfl
  obtain ⟨z3, t3⟩ := HZ.out 3 _ rfl
  obtain ⟨z4, t4⟩ := HZ.out 4 _ rfl
  obtain ⟨z5, t5⟩ := HZ.out 5 _ rfl
  obtain ⟨z6, t6⟩ := HZ.out 6 _ rfl
  obtain ⟨z7, t7⟩ := HZ.out 7 _ rfl
  have hmk : Hid (MakeP a len cap c ⟨nm, 4, 0, false, [], [], [], [(m : Int)]⟩ [.string nm, .int .i64 4, .int .i64 0, .bool false, .slice none 0 0, .slice none 0 0, .slice none 0 0, .slice (some ⟨w4.heap.size, 0, none⟩) 1 1] w _) := ⟨⟨none, 0, none, 0, none, 0, some ⟨w4.heap.size, 0, none⟩, 1, rfl, fun j hj => by simp at hj, fun j hj => by simp at hj, fun j hj => by simp at hj, hkr.out⟩, HC.out, HG.out⟩
  have hbl : Hid (∀ b ∈ ([.string nm, .int .i64 4, .int .i64 0, .bool false, .slice none 0 0, .slice none 0 0, .slice none 0 0, .slice (some ⟨w4.heap.size, 0, none⟩) 1 1] : List Value).flatMap sliceBlk, w.heap.size + 2 ≤ b) := fun b hb => by simp [sliceBlk] at hb; subst hb; exact hKN.out.2
  have hcp : Hid (Cap5 [.string nm, .int .i64 4, .int .i64 0, .bool false, .slice none 0 0, .slice none 0 0, .slice none 0 0, .slice (some ⟨w4.heap.size, 0, none⟩) 1 1]) := fun a n c h => by simp at h; obtain ⟨_, rfl, rfl⟩ := h; exact Nat.le_refl _
  have hmd : Hid (MadeR rs ⟨nm, 4, 0, false, [], [], [], [(m : Int)]⟩) := ⟨⟨s, hsb.out, HNM.out⟩, by simp [kidsB]; omega, by simp [kindI, meetsB, onlyR, sameR, hka.out]⟩
  go_wp2
  (try simp only [Exit.inBlock, Exit.then])
  refine bodyPost_ret (v := .agg #[.string nm, .int .i64 4, .int .i64 0, .bool false, .slice none 0 0, .slice none 0 0, .slice none 0 0, .slice (some ⟨w4.heap.size, 0, none⟩) 1 1]) ?_ rfl ?_
  · simp [results, Try.results63, go_sem, z0, z1, z2, z3, z4, z5, z6, z7]
  · exact ⟨_, _, rfl, ⟨hmd.out, rfl⟩, hcp.out, fun b hb => by have := hbl.out b hb; omega, ((((((((hmk.out.put hbl.out hcw hold.out 0 _).put hbl.out hcw hold.out 1 _).put hbl.out hcw hold.out 2 _).put hbl.out hcw hold.out 3 _).put hbl.out hcw hold.out 4 _).put hbl.out hcw hold.out 5 _).put hbl.out hcw hold.out 6 _).put hbl.out hcw hold.out 7 _)⟩
set_option maxRecDepth 100000 in
set_option maxHeartbeats 4000000 in
theorem make_5 (a : Option Addr) (len cap c base : Nat) (ad : Option Addr) (rs : List RuleV) (capd : Nat) (w : World) (hl : len ≤ 140737488355328) (hrs : rs.length ≤ 9) (h0 : 0 < rs.length) (hk0 : rs[0].kind = 1) (hrow : RowR base (.slice ad rs.length capd) rs w) (hcb : c < base) (hbw : base ≤ w.heap.size) (hc : Cur a len cap c w) :
    Calls Try.prog 63 #[.pointer (some ⟨c, 0, none⟩), .agg #[.slice ad rs.length capd], .int .i64 5] w (MakeOut a len cap c rs 5 w) := by
  have hcw : c < w.heap.size := by omega
  have hold := Lib.hid hc.old
  have HROW := Lib.hid hrow
  obtain ⟨w0, hw0⟩ : ∃ w0, w0 = (w.alloc (.cells #[.slice ad rs.length capd] 26)).alloc (.cells #[.string ⟨#[]⟩, .int .i64 0, .int .i64 0, .bool false, .slice none 0 0, .slice none 0 0, .slice none 0 0, .slice none 0 0] 38) := ⟨_, rfl⟩
  have hB : Below w.heap.size w w0 := by subst hw0; exact ((Below.refl _ _).alloc (Nat.le_refl _) _).alloc (by simp) _
  have hX : CellsAt w.heap.size [.slice ad rs.length capd] w0 := by subst hw0; exact (CellsAt.new w _ _).below ((Below.refl _ _).alloc (Nat.le_refl _) _)
  have hZ : CellsAt (w.heap.size + 1) [.string ⟨#[]⟩, .int .i64 0, .int .i64 0, .bool false, .slice none 0 0, .slice none 0 0, .slice none 0 0, .slice none 0 0] w0 := by
    subst hw0
    have h1 := CellsAt.new (w.alloc (.cells #[.slice ad rs.length capd] 26)) [.string ⟨#[]⟩, .int .i64 0, .int .i64 0, .bool false, .slice none 0 0, .slice none 0 0, .slice none 0 0, .slice none 0 0] 38
    simpa using h1
  have hs0 : Hid (w0.heap.size = w.heap.size + 2) := by subst hw0; show _ = _; simp
  have HC := Lib.hid (hc.below hB)
  have HG : Hid (w.grownBy w0 (some c)) := grown_of hB
  have HX := Lib.hid hX
  have HZ := Lib.hid hZ
  have hW := Lib.hid hw0
  clear hc hB hX hZ hw0 hrow
  go_enter Try.func63, Try.ntmps63
  go_wp2_with fail
  rw [← hW.out, show w.heap.size + 1 + 1 = w0.heap.size from by rw [hs0.out]]
  clear hW
  refine (str_pick a len cap c 5 [⟨#[97]⟩, ⟨#[105, 116, 101, 109]⟩, ⟨#[98]⟩, ⟨#[104, 101, 97, 100]⟩, ⟨#[120]⟩] _ rfl rfl w0 hl (by omega) (by omega) HC.out).mono ?_
  rintro e w1 ⟨s, hs, rfl, hc1, hg⟩
  replace HG := Lib.hid (Lib.grownBy_trans HG.out hg)
  replace HX := Lib.hid (HX.out.grown hg (by intro e; injection e with e; omega))
  replace HZ := Lib.hid (HZ.out.grown hg (by intro e; injection e with e; omega))
  replace HC := Lib.hid hc1
  have hs1 := Lib.hid hg.size
  clear hc1 hg
  have hss : s.size ≤ 4 := base_size hs
  have hsb := Lib.hid hs
  clear hs
  go_wp2_with fail
  refine (fmt_spec (rs.length : Int) _ (by omega) (by omega)).mono ?_
  rintro e w2 ⟨rfl, hb⟩
  replace HG := Lib.hid (grown_below HG.out hb)
  replace HC := Lib.hid (HC.out.below hb)
  replace HX := Lib.hid (HX.out.below hb)
  replace HZ := Lib.hid (HZ.out.below hb)
  have hs2 := Lib.hid hb.size
  clear hb
  have hd1 : (digitS rs.length).size = 1 := digit_one ⟨rs.length, by omega⟩
  have hadd := addS w2 s (digitS rs.length) (by omega)
  obtain ⟨nm, hnm⟩ : ∃ nm, nm = s ++ digitS rs.length := ⟨_, rfl⟩
  rw [← hnm] at hadd
  have HNM := Lib.hid hnm
  clear hnm
  unfold digitS at hadd
  go_upto_region 14 with fail
  clear hadd
  obtain ⟨w3, hw3⟩ : ∃ w3, w3 = w2.alloc (.cells #[.string nm, .int .i64 5, .int .i64 0, .bool false, .slice none 0 0, .slice none 0 0, .slice none 0 0, .slice none 0 0] 38) := ⟨_, rfl⟩
  rw [← hw3]
  have hb : Below w2.heap.size w2 w3 := by subst hw3; exact (Below.refl _ _).alloc (Nat.le_refl _) _
  have hO : CellsAt w2.heap.size [.string nm, .int .i64 5, .int .i64 0, .bool false, .slice none 0 0, .slice none 0 0, .slice none 0 0, .slice none 0 0] w3 := by subst hw3; exact CellsAt.new w2 _ _
  replace HG := Lib.hid (grown_below HG.out hb)
  replace HC := Lib.hid (HC.out.below hb)
  replace HX := Lib.hid (HX.out.below hb)
  replace HZ := Lib.hid (HZ.out.below hb)
  have HO := Lib.hid hO
  have hN : w.heap.size + 2 ≤ w2.heap.size := by have := hs0.out; have := hs1.out; have := hs2.out; omega
  have hs3 : Hid (w2.heap.size < w3.heap.size) := cell_lt (hO 0 _ rfl).1
  clear hb hO hw3 hs0 hs1 hs2
  obtain ⟨N, hNN⟩ : ∃ N, N = w2.heap.size := ⟨_, rfl⟩
  rw [← hNN] at HO hN hs3 ⊢
  clear hNN
  have bx := (HX.out 0 _ rfl).1
  go_wp2_with fail
  refine (integer_draw a len cap c ad rs capd _ hl (by omega) h0 hk0 (HROW.out.grown HG.out hcb).at.rd HC.out).mono ?_
  rintro e w4 ⟨x, hx, rfl, hc1, hg⟩
  replace HG := Lib.hid (Lib.grownBy_trans HG.out hg)
  replace HX := Lib.hid (HX.out.grown hg (by intro e; injection e with e; omega))
  replace HZ := Lib.hid (HZ.out.grown hg (by intro e; injection e with e; omega))
  replace HO := Lib.hid (HO.out.grown hg (by intro e; injection e with e; omega))
  replace HC := Lib.hid hc1
  clear hc1 hg
  clear bx
  have hka := Lib.hid (intAt_kind hx)
  obtain ⟨m, hm, rfl, _⟩ := hx
  go_wp2_with fail
  refine (below_draw a len cap c (rs.length : Int) _ hl (by omega) (by omega) HC.out).mono ?_
  rintro e w5 ⟨y, hx, rfl, hc1, hg⟩
  replace HG := Lib.hid (Lib.grownBy_trans HG.out hg)
  replace HX := Lib.hid (HX.out.grown hg (by intro e; injection e with e; omega))
  replace HZ := Lib.hid (HZ.out.grown hg (by intro e; injection e with e; omega))
  replace HO := Lib.hid (HO.out.grown hg (by intro e; injection e with e; omega))
  replace HC := Lib.hid hc1
  clear hc1 hg
  obtain ⟨y0, y1⟩ := hx
  have hsz : N < w5.heap.size := cell_lt (HO.out 0 _ rfl).1
  have hbl0 : Below w5.heap.size w5 (w5.alloc (.cells #[.int .i64 (m : Int), .int .i64 y] 3)) := (Below.refl _ _).alloc (Nat.le_refl _) _
  obtain ⟨o7, p7⟩ := HO.out.below hbl0 7 _ rfl
  clear hbl0
  go_upto_region 33 with fail
  clear o7 p7
  have hKN : Hid (w5.heap.size ≠ N ∧ w.heap.size + 2 ≤ w5.heap.size) := ⟨by omega, by omega⟩
  have hszl : (w5.setCell ⟨N, 7, none⟩ (.slice (some ⟨w5.heap.size, 0, none⟩) 2 2)).heap.size = w5.heap.size := by simp
  obtain ⟨w6l, hv⟩ : ∃ v, v = w5.setCell ⟨N, 7, none⟩ (.slice (some ⟨w5.heap.size, 0, none⟩) 2 2) := ⟨_, rfl⟩
  rw [← hv]
  (try rw [← hv] at hszl)
  replace HO := Lib.hid (HO.out.set 7 (.slice (some ⟨w5.heap.size, 0, none⟩) 2 2) (by simp))
  rw [← hv] at HO
  simp only [List.set] at HO
  replace HX := Lib.hid (HX.out.far (b' := N) (j := 7) (v := .slice (some ⟨w5.heap.size, 0, none⟩) 2 2) (by omega))
  rw [← hv] at HX
  replace HZ := Lib.hid (HZ.out.far (b' := N) (j := 7) (v := .slice (some ⟨w5.heap.size, 0, none⟩) 2 2) (by omega))
  rw [← hv] at HZ
  replace HC := Lib.hid (HC.out.put (q := N) (i := 7) (v := .slice (some ⟨w5.heap.size, 0, none⟩) 2 2) (by omega) (fun b off ha hl => by have := hold.out b off ha hl; omega))
  rw [← hv] at HC
  replace HG := Lib.hid (grown_put (q := N) (i := 7) (v := .slice (some ⟨w5.heap.size, 0, none⟩) 2 2) HG.out (by omega))
  rw [← hv] at HG
  clear hv
  obtain ⟨w6, hvl⟩ : ∃ v, v = w6l.alloc (.cells #[.int .i64 (m : Int), .int .i64 y] 3) := ⟨_, rfl⟩
  rw [← hvl]
  have hb : Below w6l.heap.size w6l w6 := by subst hvl; exact (Below.refl _ _).alloc (Nat.le_refl _) _
  have hK : CellsAt w6l.heap.size [.int .i64 (m : Int), .int .i64 y] w6 := by subst hvl; exact CellsAt.new w6l _ _
  rw [hszl] at hK
  have HK2 := Lib.hid hK
  replace HG := Lib.hid (grown_below HG.out hb)
  replace HC := Lib.hid (HC.out.below hb)
  replace HX := Lib.hid (HX.out.below hb)
  replace HZ := Lib.hid (HZ.out.below hb)
  replace HO := Lib.hid (HO.out.below hb)
  clear hb hK hvl hszl
  have hkr : Hid (RdI (some ⟨w5.heap.size, 0, none⟩) [(m : Int), y] w6) := fun j hj => by
    rcases (by simp at hj; omega : j = 0 ∨ j = 1) with rfl | rfl
    · exact ⟨_, 0, rfl, (HK2.out 0 _ rfl).1⟩
    · exact ⟨_, 0, rfl, (HK2.out 1 _ rfl).1⟩
  obtain ⟨o0, -⟩ := HO.out 0 _ rfl
  obtain ⟨o1, -⟩ := HO.out 1 _ rfl
  obtain ⟨o2, -⟩ := HO.out 2 _ rfl
  obtain ⟨o3, -⟩ := HO.out 3 _ rfl
  obtain ⟨o4, -⟩ := HO.out 4 _ rfl
  obtain ⟨o5, -⟩ := HO.out 5 _ rfl
  obtain ⟨o6, -⟩ := HO.out 6 _ rfl
  obtain ⟨o7, -⟩ := HO.out 7 _ rfl
  obtain ⟨z0, t0⟩ := HZ.out 0 _ rfl
  obtain ⟨z1, t1⟩ := HZ.out 1 _ rfl
  obtain ⟨z2, t2⟩ := HZ.out 2 _ rfl
  obtain ⟨z3, t3⟩ := HZ.out 3 _ rfl
  obtain ⟨z4, t4⟩ := HZ.out 4 _ rfl
  obtain ⟨z5, t5⟩ := HZ.out 5 _ rfl
  obtain ⟨z6, t6⟩ := HZ.out 6 _ rfl
  obtain ⟨z7, t7⟩ := HZ.out 7 _ rfl
  have hmk : Hid (MakeP a len cap c ⟨nm, 5, 0, false, [], [], [], [(m : Int), y]⟩ [.string nm, .int .i64 5, .int .i64 0, .bool false, .slice none 0 0, .slice none 0 0, .slice none 0 0, .slice (some ⟨w5.heap.size, 0, none⟩) 2 2] w _) := ⟨⟨none, 0, none, 0, none, 0, some ⟨w5.heap.size, 0, none⟩, 2, rfl, fun j hj => by simp at hj, fun j hj => by simp at hj, fun j hj => by simp at hj, hkr.out⟩, HC.out, HG.out⟩
  have hbl : Hid (∀ b ∈ ([.string nm, .int .i64 5, .int .i64 0, .bool false, .slice none 0 0, .slice none 0 0, .slice none 0 0, .slice (some ⟨w5.heap.size, 0, none⟩) 2 2] : List Value).flatMap sliceBlk, w.heap.size + 2 ≤ b) := fun b hb => by simp [sliceBlk] at hb; subst hb; exact hKN.out.2
  have hcp : Hid (Cap5 [.string nm, .int .i64 5, .int .i64 0, .bool false, .slice none 0 0, .slice none 0 0, .slice none 0 0, .slice (some ⟨w5.heap.size, 0, none⟩) 2 2]) := fun a n c h => by simp at h; obtain ⟨_, rfl, rfl⟩ := h; exact Nat.le_refl _
  have hmd : Hid (MadeR rs ⟨nm, 5, 0, false, [], [], [], [(m : Int), y]⟩) := ⟨⟨s, hsb.out, HNM.out⟩, by simp [kidsB]; omega, by simp [kindI, meetsB, onlyR, sameR, hka.out]⟩
  go_wp2
  (try simp only [Exit.inBlock, Exit.then])
  refine bodyPost_ret (v := .agg #[.string nm, .int .i64 5, .int .i64 0, .bool false, .slice none 0 0, .slice none 0 0, .slice none 0 0, .slice (some ⟨w5.heap.size, 0, none⟩) 2 2]) ?_ rfl ?_
  · simp [results, Try.results63, go_sem, z0, z1, z2, z3, z4, z5, z6, z7]
  · exact ⟨_, _, rfl, ⟨hmd.out, rfl⟩, hcp.out, fun b hb => by have := hbl.out b hb; omega, ((((((((hmk.out.put hbl.out hcw hold.out 0 _).put hbl.out hcw hold.out 1 _).put hbl.out hcw hold.out 2 _).put hbl.out hcw hold.out 3 _).put hbl.out hcw hold.out 4 _).put hbl.out hcw hold.out 5 _).put hbl.out hcw hold.out 6 _).put hbl.out hcw hold.out 7 _)⟩
set_option maxRecDepth 100000 in
set_option maxHeartbeats 4000000 in
theorem make_2 (a : Option Addr) (len cap c base : Nat) (ad : Option Addr) (rs : List RuleV) (capd : Nat) (w : World) (hl : len ≤ 140737488355328) (hrs : rs.length ≤ 9) (h0 : 0 < rs.length) (hk0 : rs[0].kind = 1) (hrow : RowR base (.slice ad rs.length capd) rs w) (hcb : c < base) (hbw : base ≤ w.heap.size) (hc : Cur a len cap c w) :
    Calls Try.prog 63 #[.pointer (some ⟨c, 0, none⟩), .agg #[.slice ad rs.length capd], .int .i64 2] w (MakeOut a len cap c rs 2 w) := by
  have hcw : c < w.heap.size := by omega
  have hold := Lib.hid hc.old
  have HROW := Lib.hid hrow
  obtain ⟨w0, hw0⟩ : ∃ w0, w0 = (w.alloc (.cells #[.slice ad rs.length capd] 26)).alloc (.cells #[.string ⟨#[]⟩, .int .i64 0, .int .i64 0, .bool false, .slice none 0 0, .slice none 0 0, .slice none 0 0, .slice none 0 0] 38) := ⟨_, rfl⟩
  have hB : Below w.heap.size w w0 := by subst hw0; exact ((Below.refl _ _).alloc (Nat.le_refl _) _).alloc (by simp) _
  have hX : CellsAt w.heap.size [.slice ad rs.length capd] w0 := by subst hw0; exact (CellsAt.new w _ _).below ((Below.refl _ _).alloc (Nat.le_refl _) _)
  have hZ : CellsAt (w.heap.size + 1) [.string ⟨#[]⟩, .int .i64 0, .int .i64 0, .bool false, .slice none 0 0, .slice none 0 0, .slice none 0 0, .slice none 0 0] w0 := by
    subst hw0
    have h1 := CellsAt.new (w.alloc (.cells #[.slice ad rs.length capd] 26)) [.string ⟨#[]⟩, .int .i64 0, .int .i64 0, .bool false, .slice none 0 0, .slice none 0 0, .slice none 0 0, .slice none 0 0] 38
    simpa using h1
  have hs0 : Hid (w0.heap.size = w.heap.size + 2) := by subst hw0; show _ = _; simp
  have HC := Lib.hid (hc.below hB)
  have HG : Hid (w.grownBy w0 (some c)) := grown_of hB
  have HX := Lib.hid hX
  have HZ := Lib.hid hZ
  have hW := Lib.hid hw0
  clear hc hB hX hZ hw0 hrow
  go_enter Try.func63, Try.ntmps63
  go_wp2_with fail
  rw [← hW.out, show w.heap.size + 1 + 1 = w0.heap.size from by rw [hs0.out]]
  clear hW
  refine (str_pick a len cap c 5 [⟨#[97]⟩, ⟨#[105, 116, 101, 109]⟩, ⟨#[98]⟩, ⟨#[104, 101, 97, 100]⟩, ⟨#[120]⟩] _ rfl rfl w0 hl (by omega) (by omega) HC.out).mono ?_
  rintro e w1 ⟨s, hs, rfl, hc1, hg⟩
  replace HG := Lib.hid (Lib.grownBy_trans HG.out hg)
  replace HX := Lib.hid (HX.out.grown hg (by intro e; injection e with e; omega))
  replace HZ := Lib.hid (HZ.out.grown hg (by intro e; injection e with e; omega))
  replace HC := Lib.hid hc1
  have hs1 := Lib.hid hg.size
  clear hc1 hg
  have hss : s.size ≤ 4 := base_size hs
  have hsb := Lib.hid hs
  clear hs
  go_wp2_with fail
  refine (fmt_spec (rs.length : Int) _ (by omega) (by omega)).mono ?_
  rintro e w2 ⟨rfl, hb⟩
  replace HG := Lib.hid (grown_below HG.out hb)
  replace HC := Lib.hid (HC.out.below hb)
  replace HX := Lib.hid (HX.out.below hb)
  replace HZ := Lib.hid (HZ.out.below hb)
  have hs2 := Lib.hid hb.size
  clear hb
  have hd1 : (digitS rs.length).size = 1 := digit_one ⟨rs.length, by omega⟩
  have hadd := addS w2 s (digitS rs.length) (by omega)
  obtain ⟨nm, hnm⟩ : ∃ nm, nm = s ++ digitS rs.length := ⟨_, rfl⟩
  rw [← hnm] at hadd
  have HNM := Lib.hid hnm
  clear hnm
  unfold digitS at hadd
  go_upto_region 8 with fail
  clear hadd
  obtain ⟨w3, hw3⟩ : ∃ w3, w3 = w2.alloc (.cells #[.string nm, .int .i64 2, .int .i64 0, .bool false, .slice none 0 0, .slice none 0 0, .slice none 0 0, .slice none 0 0] 38) := ⟨_, rfl⟩
  rw [← hw3]
  have hb : Below w2.heap.size w2 w3 := by subst hw3; exact (Below.refl _ _).alloc (Nat.le_refl _) _
  have hO : CellsAt w2.heap.size [.string nm, .int .i64 2, .int .i64 0, .bool false, .slice none 0 0, .slice none 0 0, .slice none 0 0, .slice none 0 0] w3 := by subst hw3; exact CellsAt.new w2 _ _
  replace HG := Lib.hid (grown_below HG.out hb)
  replace HC := Lib.hid (HC.out.below hb)
  replace HX := Lib.hid (HX.out.below hb)
  replace HZ := Lib.hid (HZ.out.below hb)
  have HO := Lib.hid hO
  have hN : w.heap.size + 2 ≤ w2.heap.size := by have := hs0.out; have := hs1.out; have := hs2.out; omega
  have hs3 : Hid (w2.heap.size < w3.heap.size) := cell_lt (hO 0 _ rfl).1
  clear hb hO hw3 hs0 hs1 hs2
  obtain ⟨N, hNN⟩ : ∃ N, N = w2.heap.size := ⟨_, rfl⟩
  rw [← hNN] at HO hN hs3 ⊢
  clear hNN
  have _ := hk0
  have _ := h0
  go_wp2_with fail
  refine (below_draw a len cap c 3 _ hl (by omega) (by omega) HC.out).mono ?_
  rintro e w4 ⟨x, hx, rfl, hc1, hg⟩
  replace HG := Lib.hid (Lib.grownBy_trans HG.out hg)
  replace HX := Lib.hid (HX.out.grown hg (by intro e; injection e with e; omega))
  replace HZ := Lib.hid (HZ.out.grown hg (by intro e; injection e with e; omega))
  replace HO := Lib.hid (HO.out.grown hg (by intro e; injection e with e; omega))
  replace HC := Lib.hid hc1
  clear hc1 hg
  obtain ⟨x0, x1⟩ := hx
  obtain ⟨m, hm⟩ : ∃ m : Nat, 1 + x = (m : Int) := ⟨(1 + x).toNat, by omega⟩
  have m1 : 1 ≤ m := by omega
  have m3 : m ≤ 3 := by omega
  have hsz : N < w4.heap.size := cell_lt (HO.out 0 _ rfl).1
  go_wp2_with fail
  refine (bytes_draw a len cap c m _ hl (by omega) HC.out).mono ?_
  rintro e w5 ⟨vv, bs, hbl, rfl, hrw0, hc1, hg⟩
  obtain ⟨xa, xc, rfl, hrw⟩ := hrw0.row
  replace HG := Lib.hid (Lib.grownBy_trans HG.out hg)
  replace HX := Lib.hid (HX.out.grown hg (by intro e; injection e with e; omega))
  replace HZ := Lib.hid (HZ.out.grown hg (by intro e; injection e with e; omega))
  replace HO := Lib.hid (HO.out.grown hg (by intro e; injection e with e; omega))
  replace HC := Lib.hid hc1
  have HRW := Lib.hid hrw
  clear hc1 hg hrw hrw0
  obtain ⟨o4, p4⟩ := HO.out 4 _ rfl
  go_upto_region 33 with fail
  clear o4 p4
  subst hbl
  have HRW2 := Lib.hid (HRW.out.setFar (c := N) (i := 4) (v := .slice xa bs.length xc) hsz)
  obtain ⟨w6, hv⟩ : ∃ v, v = w5.setCell ⟨N, 4, none⟩ (.slice xa bs.length xc) := ⟨_, rfl⟩
  rw [← hv]
  replace HO := Lib.hid (HO.out.set 4 (.slice xa bs.length xc) (by simp))
  rw [← hv] at HO
  simp only [List.set] at HO
  replace HX := Lib.hid (HX.out.far (b' := N) (j := 4) (v := .slice xa bs.length xc) (by omega))
  rw [← hv] at HX
  replace HZ := Lib.hid (HZ.out.far (b' := N) (j := 4) (v := .slice xa bs.length xc) (by omega))
  rw [← hv] at HZ
  replace HC := Lib.hid (HC.out.put (q := N) (i := 4) (v := .slice xa bs.length xc) (by omega) (fun b off ha hl => by have := hold.out b off ha hl; omega))
  rw [← hv] at HC
  replace HG := Lib.hid (grown_put (q := N) (i := 4) (v := .slice xa bs.length xc) HG.out (by omega))
  rw [← hv] at HG
  rw [← hv] at HRW2
  clear hv
  have hbx : Hid (∀ b ∈ ([.string nm, .int .i64 2, .int .i64 0, .bool false, .slice xa bs.length xc, .slice none 0 0, .slice none 0 0, .slice none 0 0] : List Value).flatMap sliceBlk, w.heap.size + 2 ≤ b) := fun b hb => by
    have e : ([.string nm, .int .i64 2, .int .i64 0, .bool false, .slice xa bs.length xc, .slice none 0 0, .slice none 0 0, .slice none 0 0] : List Value).flatMap sliceBlk = sliceBlk (.slice xa bs.length xc) ++ [] := rfl
    rw [e, List.append_nil] at hb
    have := (Fresh.lies HRW2.out.1).blk b hb
    omega
  obtain ⟨o0, -⟩ := HO.out 0 _ rfl
  obtain ⟨o1, -⟩ := HO.out 1 _ rfl
  obtain ⟨o2, -⟩ := HO.out 2 _ rfl
  obtain ⟨o3, -⟩ := HO.out 3 _ rfl
  obtain ⟨o4, -⟩ := HO.out 4 _ rfl
  obtain ⟨o5, -⟩ := HO.out 5 _ rfl
  obtain ⟨o6, -⟩ := HO.out 6 _ rfl
  obtain ⟨o7, -⟩ := HO.out 7 _ rfl
  obtain ⟨z0, t0⟩ := HZ.out 0 _ rfl
  obtain ⟨z1, t1⟩ := HZ.out 1 _ rfl
  obtain ⟨z2, t2⟩ := HZ.out 2 _ rfl
  obtain ⟨z3, t3⟩ := HZ.out 3 _ rfl
  obtain ⟨z4, t4⟩ := HZ.out 4 _ rfl
  obtain ⟨z5, t5⟩ := HZ.out 5 _ rfl
  obtain ⟨z6, t6⟩ := HZ.out 6 _ rfl
  obtain ⟨z7, t7⟩ := HZ.out 7 _ rfl
  have hmk : Hid (MakeP a len cap c ⟨nm, 2, 0, false, bs, [], [], []⟩ [.string nm, .int .i64 2, .int .i64 0, .bool false, .slice xa bs.length xc, .slice none 0 0, .slice none 0 0, .slice none 0 0] w _) := ⟨⟨xa, xc, none, 0, none, 0, none, 0, rfl, HRW2.out.rd, fun j hj => by simp at hj, fun j hj => by simp at hj, fun j hj => by simp at hj⟩, HC.out, HG.out⟩
  have hbl : Hid (∀ b ∈ ([.string nm, .int .i64 2, .int .i64 0, .bool false, .slice xa bs.length xc, .slice none 0 0, .slice none 0 0, .slice none 0 0] : List Value).flatMap sliceBlk, w.heap.size + 2 ≤ b) := hbx.out
  have hcp : Hid (Cap5 [.string nm, .int .i64 2, .int .i64 0, .bool false, .slice xa bs.length xc, .slice none 0 0, .slice none 0 0, .slice none 0 0]) := fun a n c h => by simp at h; obtain ⟨_, rfl, rfl⟩ := h; exact Nat.le_refl _
  have hmd : Hid (MadeR rs ⟨nm, 2, 0, false, bs, [], [], []⟩) := ⟨⟨s, hsb.out, HNM.out⟩, by simp [kidsB], by simp [kindI, meetsB, onlyR, sameR]; omega⟩
  go_wp2
  (try simp only [Exit.inBlock, Exit.then])
  refine bodyPost_ret (v := .agg #[.string nm, .int .i64 2, .int .i64 0, .bool false, .slice xa bs.length xc, .slice none 0 0, .slice none 0 0, .slice none 0 0]) ?_ rfl ?_
  · simp [results, Try.results63, go_sem, z0, z1, z2, z3, z4, z5, z6, z7]
  · exact ⟨_, _, rfl, ⟨hmd.out, rfl⟩, hcp.out, fun b hb => by have := hbl.out b hb; omega, ((((((((hmk.out.put hbl.out hcw hold.out 0 _).put hbl.out hcw hold.out 1 _).put hbl.out hcw hold.out 2 _).put hbl.out hcw hold.out 3 _).put hbl.out hcw hold.out 4 _).put hbl.out hcw hold.out 5 _).put hbl.out hcw hold.out 6 _).put hbl.out hcw hold.out 7 _)⟩
set_option maxRecDepth 100000 in
set_option maxHeartbeats 4000000 in
theorem make_10 (a : Option Addr) (len cap c base : Nat) (ad : Option Addr) (rs : List RuleV) (capd : Nat) (w : World) (hl : len ≤ 140737488355328) (hrs : rs.length ≤ 9) (h0 : 0 < rs.length) (hk0 : rs[0].kind = 1) (hrow : RowR base (.slice ad rs.length capd) rs w) (hcb : c < base) (hbw : base ≤ w.heap.size) (hc : Cur a len cap c w) :
    Calls Try.prog 63 #[.pointer (some ⟨c, 0, none⟩), .agg #[.slice ad rs.length capd], .int .i64 10] w (MakeOut a len cap c rs 10 w) := by
  have hcw : c < w.heap.size := by omega
  have hold := Lib.hid hc.old
  have HROW := Lib.hid hrow
  obtain ⟨w0, hw0⟩ : ∃ w0, w0 = (w.alloc (.cells #[.slice ad rs.length capd] 26)).alloc (.cells #[.string ⟨#[]⟩, .int .i64 0, .int .i64 0, .bool false, .slice none 0 0, .slice none 0 0, .slice none 0 0, .slice none 0 0] 38) := ⟨_, rfl⟩
  have hB : Below w.heap.size w w0 := by subst hw0; exact ((Below.refl _ _).alloc (Nat.le_refl _) _).alloc (by simp) _
  have hX : CellsAt w.heap.size [.slice ad rs.length capd] w0 := by subst hw0; exact (CellsAt.new w _ _).below ((Below.refl _ _).alloc (Nat.le_refl _) _)
  have hZ : CellsAt (w.heap.size + 1) [.string ⟨#[]⟩, .int .i64 0, .int .i64 0, .bool false, .slice none 0 0, .slice none 0 0, .slice none 0 0, .slice none 0 0] w0 := by
    subst hw0
    have h1 := CellsAt.new (w.alloc (.cells #[.slice ad rs.length capd] 26)) [.string ⟨#[]⟩, .int .i64 0, .int .i64 0, .bool false, .slice none 0 0, .slice none 0 0, .slice none 0 0, .slice none 0 0] 38
    simpa using h1
  have hs0 : Hid (w0.heap.size = w.heap.size + 2) := by subst hw0; show _ = _; simp
  have HC := Lib.hid (hc.below hB)
  have HG : Hid (w.grownBy w0 (some c)) := grown_of hB
  have HX := Lib.hid hX
  have HZ := Lib.hid hZ
  have hW := Lib.hid hw0
  clear hc hB hX hZ hw0 hrow
  go_enter Try.func63, Try.ntmps63
  go_wp2_with fail
  rw [← hW.out, show w.heap.size + 1 + 1 = w0.heap.size from by rw [hs0.out]]
  clear hW
  refine (str_pick a len cap c 5 [⟨#[97]⟩, ⟨#[105, 116, 101, 109]⟩, ⟨#[98]⟩, ⟨#[104, 101, 97, 100]⟩, ⟨#[120]⟩] _ rfl rfl w0 hl (by omega) (by omega) HC.out).mono ?_
  rintro e w1 ⟨s, hs, rfl, hc1, hg⟩
  replace HG := Lib.hid (Lib.grownBy_trans HG.out hg)
  replace HX := Lib.hid (HX.out.grown hg (by intro e; injection e with e; omega))
  replace HZ := Lib.hid (HZ.out.grown hg (by intro e; injection e with e; omega))
  replace HC := Lib.hid hc1
  have hs1 := Lib.hid hg.size
  clear hc1 hg
  have hss : s.size ≤ 4 := base_size hs
  have hsb := Lib.hid hs
  clear hs
  go_wp2_with fail
  refine (fmt_spec (rs.length : Int) _ (by omega) (by omega)).mono ?_
  rintro e w2 ⟨rfl, hb⟩
  replace HG := Lib.hid (grown_below HG.out hb)
  replace HC := Lib.hid (HC.out.below hb)
  replace HX := Lib.hid (HX.out.below hb)
  replace HZ := Lib.hid (HZ.out.below hb)
  have hs2 := Lib.hid hb.size
  clear hb
  have hd1 : (digitS rs.length).size = 1 := digit_one ⟨rs.length, by omega⟩
  have hadd := addS w2 s (digitS rs.length) (by omega)
  obtain ⟨nm, hnm⟩ : ∃ nm, nm = s ++ digitS rs.length := ⟨_, rfl⟩
  rw [← hnm] at hadd
  have HNM := Lib.hid hnm
  clear hnm
  unfold digitS at hadd
  go_upto_region 32 with fail
  clear hadd
  obtain ⟨w3, hw3⟩ : ∃ w3, w3 = w2.alloc (.cells #[.string nm, .int .i64 10, .int .i64 0, .bool false, .slice none 0 0, .slice none 0 0, .slice none 0 0, .slice none 0 0] 38) := ⟨_, rfl⟩
  rw [← hw3]
  have hb : Below w2.heap.size w2 w3 := by subst hw3; exact (Below.refl _ _).alloc (Nat.le_refl _) _
  have hO : CellsAt w2.heap.size [.string nm, .int .i64 10, .int .i64 0, .bool false, .slice none 0 0, .slice none 0 0, .slice none 0 0, .slice none 0 0] w3 := by subst hw3; exact CellsAt.new w2 _ _
  replace HG := Lib.hid (grown_below HG.out hb)
  replace HC := Lib.hid (HC.out.below hb)
  replace HX := Lib.hid (HX.out.below hb)
  replace HZ := Lib.hid (HZ.out.below hb)
  have HO := Lib.hid hO
  have hN : w.heap.size + 2 ≤ w2.heap.size := by have := hs0.out; have := hs1.out; have := hs2.out; omega
  have hs3 : Hid (w2.heap.size < w3.heap.size) := cell_lt (hO 0 _ rfl).1
  clear hb hO hw3 hs0 hs1 hs2
  obtain ⟨N, hNN⟩ : ∃ N, N = w2.heap.size := ⟨_, rfl⟩
  rw [← hNN] at HO hN hs3 ⊢
  clear hNN
  have _ := hk0
  have _ := h0
  have hsz : N < w3.heap.size := cell_lt (HO.out 0 _ rfl).1
  go_wp2_with fail
  refine (int_pick a len cap c 4 [0, 10, 59, 255] _ rfl rfl w3 hl (by omega) (by omega) HC.out).mono ?_
  rintro e w4 ⟨x, hx, rfl, hc1, hg⟩
  replace HG := Lib.hid (Lib.grownBy_trans HG.out hg)
  replace HX := Lib.hid (HX.out.grown hg (by intro e; injection e with e; omega))
  replace HZ := Lib.hid (HZ.out.grown hg (by intro e; injection e with e; omega))
  replace HO := Lib.hid (HO.out.grown hg (by intro e; injection e with e; omega))
  replace HC := Lib.hid hc1
  clear hc1 hg hsz
  have hsz : N < w4.heap.size := cell_lt (HO.out 0 _ rfl).1
  obtain ⟨d, hd, hdn⟩ : ∃ d : UInt8, x = (d.toNat : Int) ∧ d ≠ 92 := by
    simp at hx
    rcases hx with rfl | rfl | rfl | rfl
    · exact ⟨0, rfl, by decide⟩
    · exact ⟨10, rfl, by decide⟩
    · exact ⟨59, rfl, by decide⟩
    · exact ⟨255, rfl, by decide⟩
  have x0 : 0 ≤ x := by omega
  have x1 : x < 256 := by have := d.toNat_lt; omega
  subst hd
  clear hx
  have hbl0 : Below w4.heap.size w4 (w4.alloc (.cells #[.int .u8 (d.toNat : Int)] 5)) := (Below.refl _ _).alloc (Nat.le_refl _) _
  obtain ⟨o4, p4⟩ := HO.out.below hbl0 4 _ rfl
  clear hbl0
  go_upto_region 33 with fail
  clear o4 p4
  have hKN : Hid (w4.heap.size ≠ N ∧ w.heap.size + 2 ≤ w4.heap.size) := ⟨by omega, by omega⟩
  have hszl : (w4.setCell ⟨N, 4, none⟩ (.slice (some ⟨w4.heap.size, 0, none⟩) 1 1)).heap.size = w4.heap.size := by simp
  obtain ⟨w5l, hv⟩ : ∃ v, v = w4.setCell ⟨N, 4, none⟩ (.slice (some ⟨w4.heap.size, 0, none⟩) 1 1) := ⟨_, rfl⟩
  rw [← hv]
  (try rw [← hv] at hszl)
  replace HO := Lib.hid (HO.out.set 4 (.slice (some ⟨w4.heap.size, 0, none⟩) 1 1) (by simp))
  rw [← hv] at HO
  simp only [List.set] at HO
  replace HX := Lib.hid (HX.out.far (b' := N) (j := 4) (v := .slice (some ⟨w4.heap.size, 0, none⟩) 1 1) (by omega))
  rw [← hv] at HX
  replace HZ := Lib.hid (HZ.out.far (b' := N) (j := 4) (v := .slice (some ⟨w4.heap.size, 0, none⟩) 1 1) (by omega))
  rw [← hv] at HZ
  replace HC := Lib.hid (HC.out.put (q := N) (i := 4) (v := .slice (some ⟨w4.heap.size, 0, none⟩) 1 1) (by omega) (fun b off ha hl => by have := hold.out b off ha hl; omega))
  rw [← hv] at HC
  replace HG := Lib.hid (grown_put (q := N) (i := 4) (v := .slice (some ⟨w4.heap.size, 0, none⟩) 1 1) HG.out (by omega))
  rw [← hv] at HG
  clear hv
  obtain ⟨w5, hvl⟩ : ∃ v, v = w5l.alloc (.cells #[.int .u8 (d.toNat : Int)] 5) := ⟨_, rfl⟩
  rw [← hvl]
  have hb : Below w5l.heap.size w5l w5 := by subst hvl; exact (Below.refl _ _).alloc (Nat.le_refl _) _
  have hK : CellsAt w5l.heap.size [.int .u8 (d.toNat : Int)] w5 := by subst hvl; exact CellsAt.new w5l _ _
  rw [hszl] at hK
  have HK2 := Lib.hid hK
  replace HG := Lib.hid (grown_below HG.out hb)
  replace HC := Lib.hid (HC.out.below hb)
  replace HX := Lib.hid (HX.out.below hb)
  replace HZ := Lib.hid (HZ.out.below hb)
  replace HO := Lib.hid (HO.out.below hb)
  clear hb hK hvl hszl
  have hkr : Hid (Rd (some ⟨w4.heap.size, 0, none⟩) [d] w5) := fun j hj => by
    obtain rfl : j = 0 := by simpa using hj
    exact ⟨_, 0, rfl, (HK2.out 0 _ rfl).1⟩
  obtain ⟨o0, -⟩ := HO.out 0 _ rfl
  obtain ⟨o1, -⟩ := HO.out 1 _ rfl
  obtain ⟨o2, -⟩ := HO.out 2 _ rfl
  obtain ⟨o3, -⟩ := HO.out 3 _ rfl
  obtain ⟨o4, -⟩ := HO.out 4 _ rfl
  obtain ⟨o5, -⟩ := HO.out 5 _ rfl
  obtain ⟨o6, -⟩ := HO.out 6 _ rfl
  obtain ⟨o7, -⟩ := HO.out 7 _ rfl
  obtain ⟨z0, t0⟩ := HZ.out 0 _ rfl
  obtain ⟨z1, t1⟩ := HZ.out 1 _ rfl
  obtain ⟨z2, t2⟩ := HZ.out 2 _ rfl
  obtain ⟨z3, t3⟩ := HZ.out 3 _ rfl
  obtain ⟨z4, t4⟩ := HZ.out 4 _ rfl
  obtain ⟨z5, t5⟩ := HZ.out 5 _ rfl
  obtain ⟨z6, t6⟩ := HZ.out 6 _ rfl
  obtain ⟨z7, t7⟩ := HZ.out 7 _ rfl
  have hmk : Hid (MakeP a len cap c ⟨nm, 10, 0, false, [d], [], [], []⟩ [.string nm, .int .i64 10, .int .i64 0, .bool false, .slice (some ⟨w4.heap.size, 0, none⟩) 1 1, .slice none 0 0, .slice none 0 0, .slice none 0 0] w _) := ⟨⟨some ⟨w4.heap.size, 0, none⟩, 1, none, 0, none, 0, none, 0, rfl, hkr.out, fun j hj => by simp at hj, fun j hj => by simp at hj, fun j hj => by simp at hj⟩, HC.out, HG.out⟩
  have hbl : Hid (∀ b ∈ ([.string nm, .int .i64 10, .int .i64 0, .bool false, .slice (some ⟨w4.heap.size, 0, none⟩) 1 1, .slice none 0 0, .slice none 0 0, .slice none 0 0] : List Value).flatMap sliceBlk, w.heap.size + 2 ≤ b) := fun b hb => by simp [sliceBlk] at hb; subst hb; exact hKN.out.2
  have hcp : Hid (Cap5 [.string nm, .int .i64 10, .int .i64 0, .bool false, .slice (some ⟨w4.heap.size, 0, none⟩) 1 1, .slice none 0 0, .slice none 0 0, .slice none 0 0]) := fun a n c h => by simp at h; obtain ⟨_, rfl, rfl⟩ := h; exact Nat.le_refl _
  have hmd : Hid (MadeR rs ⟨nm, 10, 0, false, [d], [], [], []⟩) := ⟨⟨s, hsb.out, HNM.out⟩, by simp [kidsB], by simp [kindI, meetsB, onlyR, sameR, termB, hdn]⟩
  go_wp2
  (try simp only [Exit.inBlock, Exit.then])
  refine bodyPost_ret (v := .agg #[.string nm, .int .i64 10, .int .i64 0, .bool false, .slice (some ⟨w4.heap.size, 0, none⟩) 1 1, .slice none 0 0, .slice none 0 0, .slice none 0 0]) ?_ rfl ?_
  · simp [results, Try.results63, go_sem, z0, z1, z2, z3, z4, z5, z6, z7]
  · exact ⟨_, _, rfl, ⟨hmd.out, rfl⟩, hcp.out, fun b hb => by have := hbl.out b hb; omega, ((((((((hmk.out.put hbl.out hcw hold.out 0 _).put hbl.out hcw hold.out 1 _).put hbl.out hcw hold.out 2 _).put hbl.out hcw hold.out 3 _).put hbl.out hcw hold.out 4 _).put hbl.out hcw hold.out 5 _).put hbl.out hcw hold.out 6 _).put hbl.out hcw hold.out 7 _)⟩
end Go.Proofs.Ytnhijffemogpgaa
namespace Go.Proofs.Ytnhijffemogpgaa
open Go Go.RowKit
theorem Cur.grown {a : Option Addr} {len cap c : Nat} {w w' : World} {row : Option Nat} (h : Cur a len cap c w) (hg : w.grownBy w' row) (hc : some c ≠ row) (hs : ∀ b off, a = some ⟨b, off, none⟩ → 0 < len → some b ≠ row) : Cur a len cap c w' := by
  obtain ⟨k, x, hk, c0, c1, c2, f1, f2, hsrc⟩ := h
  have hb := hg.block c (cell_lt c0) hc
  refine ⟨k, x, hk, hg.cell c0 hc, hg.cell c1 hc, hg.cell c2 hc, (World.frozen?_of_block (a := ⟨c, 1, none⟩) hb).trans f1, (World.frozen?_of_block (a := ⟨c, 2, none⟩) hb).trans f2, fun j hj => ?_⟩
  obtain ⟨b, off, y, ha, hne, hy, hcc⟩ := hsrc j hj
  exact ⟨b, off, y, ha, hne, hy, hg.cell hcc (hs b off ha (by omega))⟩
theorem grown_far {w u v : World} {c : Nat} {row : Option Nat} (h : w.grownBy u (some c)) (g : u.grownBy v row) (hr : ∀ k, row = some k → w.heap.size ≤ k) : w.grownBy v (some c) :=
  ⟨g.os.trans h.os, g.tape.trans h.tape, g.output.trans h.output, Nat.le_trans h.size g.size, fun k hk hne => (g.block k (Nat.lt_of_lt_of_le hk h.size) (by intro e; have := hr k e.symm; omega)).trans (h.block k hk hne)⟩
/-- The names of a drawn sequence, from the last part on. -/
def SeqN (m j : Nat) (ns : List ByteArray) : Prop := ns.length + j = m ∧ ∀ t (h : t < ns.length), ∃ s ∈ ([⟨#[112]⟩, ⟨#[113]⟩, ⟨#[114]⟩] : List ByteArray), ns[t] = s ++ digitS (m - t)
/-- Indices of rules. -/
def KidsN (n : Nat) (ks : List Int) : Prop := ∀ x ∈ ks, 0 ≤ x ∧ x < (n : Int)
theorem pqr_size {s : ByteArray} (h : s ∈ ([⟨#[112]⟩, ⟨#[113]⟩, ⟨#[114]⟩] : List ByteArray)) : s.size = 1 := by
  simp only [List.mem_cons, List.not_mem_nil, or_false] at h
  rcases h with rfl | rfl | rfl <;> rfl
theorem SeqN.push {m j : Nat} {ns : List ByteArray} (h : SeqN m j ns) (hj : 0 < j) {y : ByteArray} (hy : y ∈ ([⟨#[112]⟩, ⟨#[113]⟩, ⟨#[114]⟩] : List ByteArray)) : SeqN m (j - 1) (ns ++ [y ++ digitS j]) := by
  obtain ⟨h1, h2⟩ := h
  refine ⟨by simp; omega, fun t ht => ?_⟩
  by_cases e : t < ns.length
  · rw [List.getElem_append_left e]; exact h2 t e
  · simp at ht
    obtain rfl : t = ns.length := by omega
    refine ⟨y, hy, ?_⟩
    rw [List.getElem_append_right (Nat.le_refl _)]
    simp only [Nat.sub_self, List.getElem_cons_zero]
    rw [show m - ns.length = j from by omega]
/-- The state of a drawn sequence between two parts. -/
def Seq6 (a : Option Addr) (len cap c : Nat) (ad : Option Addr) (rs : List RuleV) (capd : Nat) (nm : ByteArray) (N B m jn jk : Nat) (w W : World) : Prop :=
  ∃ (vN vK : Value) (ns : List ByteArray) (ks : List Int), SeqN m jn ns ∧ KidsN rs.length ks ∧ ks.length + jk = m ∧
    W.ownsRow B 9 1 vN ns.length (ns.map Value.string) ∧ W.ownsRow B 3 1 vK ks.length (ks.map (Value.int .i64)) ∧ (∀ g, vN.ownBlock = some g → vK.ownBlock ≠ some g) ∧
    CellsAt w.heap.size [.slice ad rs.length capd] W ∧ CellsAt (w.heap.size + 1) [.string ⟨#[]⟩, .int .i64 0, .int .i64 0, .bool false, .slice none 0 0, .slice none 0 0, .slice none 0 0, .slice none 0 0] W ∧ CellsAt N [.string nm, .int .i64 6, .int .i64 0, .bool false, .slice none 0 0, vN, .slice none 0 0, vK] W ∧ Cur a len cap c W ∧ w.grownBy W (some c) ∧ B ≤ W.heap.size
/-- One name more. -/
theorem Seq6.name {a : Option Addr} {len cap c : Nat} {ad : Option Addr} {rs : List RuleV} {capd : Nat} {nm : ByteArray} {N B m j jk : Nat} {w w6 w7 : World} {vN vK v' : Value} {ns : List ByteArray} {ks : List Int} {y ny : ByteArray} (hj : 0 < j)
    (hcw : c < w.heap.size) (hN : w.heap.size + 2 ≤ N) (hNB : N < B) (hold : ∀ b off, a = some ⟨b, off, none⟩ → 0 < len → b < w.heap.size)
    (hns : SeqN m j ns) (hks : KidsN rs.length ks) (hkl : ks.length + jk = m) (hoN : w6.ownsRow B 9 1 vN ns.length (ns.map Value.string)) (hoK : w6.ownsRow B 3 1 vK ks.length (ks.map (Value.int .i64))) (hdis : ∀ g, vN.ownBlock = some g → vK.ownBlock ≠ some g)
    (hX : CellsAt w.heap.size [.slice ad rs.length capd] w6) (hZ : CellsAt (w.heap.size + 1) [.string ⟨#[]⟩, .int .i64 0, .int .i64 0, .bool false, .slice none 0 0, .slice none 0 0, .slice none 0 0, .slice none 0 0] w6) (hO : CellsAt N [.string nm, .int .i64 6, .int .i64 0, .bool false, .slice none 0 0, vN, .slice none 0 0, vK] w6) (hC : Cur a len cap c w6) (hG : w.grownBy w6 (some c)) (hBW : B ≤ w6.heap.size)
    (hy : y ∈ ([⟨#[112]⟩, ⟨#[113]⟩, ⟨#[114]⟩] : List ByteArray)) (hny : ny = y ++ digitS j) (hv : w7.ownsRow B 9 1 v' (ns ++ [ny]).length ((ns ++ [ny]).map Value.string)) (hg : w6.grownBy w7 vN.ownBlock) (hb : v'.ownBlock = vN.ownBlock ∨ ∃ g, v'.ownBlock = some g ∧ w6.heap.size ≤ g) :
    Seq6 a len cap c ad rs capd nm N B m (j - 1) jk w (w7.setCell ⟨N, 5, none⟩ v') := by
  have hlt : ∀ k, vN.ownBlock = some k → B ≤ k := fun k e => (World.ownsRow.lt hoN k e).1
  have hltK : ∀ k, vK.ownBlock = some k → B ≤ k ∧ k < w6.heap.size := fun k e => World.ownsRow.lt hoK k e
  have hX7 := hX.grown hg (by intro e; have := hlt _ e.symm; omega)
  have hZ7 := hZ.grown hg (by intro e; have := hlt _ e.symm; omega)
  have hO7 := (hO.grown hg (by intro e; have := hlt _ e.symm; omega)).set 5 v' (by simp)
  have hC7 := hC.grown hg (by intro e; have := hlt _ e.symm; omega) (fun b off ha hl => by intro e; have := hlt _ e.symm; have := hold b off ha hl; omega)
  have hK7 := own_keep hoK hg (fun g e f => hdis g f e)
  have hg8 := grown_set (grown_refl w7 N) 5 v'
  simp only [List.set] at hO7
  refine ⟨v', vK, ns ++ [ny], ks, hny ▸ hns.push hj hy, hks, hkl, own_keep hv hg8 (fun g e f => ?_), own_keep hK7 hg8 (fun g e f => ?_), fun g e f => ?_, hX7.far (by omega), hZ7.far (by omega), hO7, hC7.put (by omega) (fun b off ha hl => by have := hold b off ha hl; omega), grown_put (grown_far hG hg (fun k e => by have := hlt _ e; omega)) (by omega), ?_⟩
  · have := (World.ownsRow.lt hv g e).1; injection f with f; omega
  · have := (hltK g e).1; injection f with f; omega
  · rcases hb with hb | ⟨q, hb, hq⟩
    · exact hdis g (hb ▸ e) f
    · rw [hb] at e; injection e with e; have := (hltK g f).2; omega
  · exact Nat.le_trans hBW (Nat.le_trans hg.size hg8.size)
/-- One kid more. -/
theorem Seq6.kid {a : Option Addr} {len cap c : Nat} {ad : Option Addr} {rs : List RuleV} {capd : Nat} {nm : ByteArray} {N B m jn j : Nat} {w w6 w7 : World} {vN vK v' : Value} {ns : List ByteArray} {ks : List Int} {x : Int} (hj : 0 < j)
    (hcw : c < w.heap.size) (hN : w.heap.size + 2 ≤ N) (hNB : N < B) (hold : ∀ b off, a = some ⟨b, off, none⟩ → 0 < len → b < w.heap.size)
    (hns : SeqN m jn ns) (hks : KidsN rs.length ks) (hkl : ks.length + j = m) (hoN : w6.ownsRow B 9 1 vN ns.length (ns.map Value.string)) (hoK : w6.ownsRow B 3 1 vK ks.length (ks.map (Value.int .i64))) (hdis : ∀ g, vN.ownBlock = some g → vK.ownBlock ≠ some g)
    (hX : CellsAt w.heap.size [.slice ad rs.length capd] w6) (hZ : CellsAt (w.heap.size + 1) [.string ⟨#[]⟩, .int .i64 0, .int .i64 0, .bool false, .slice none 0 0, .slice none 0 0, .slice none 0 0, .slice none 0 0] w6) (hO : CellsAt N [.string nm, .int .i64 6, .int .i64 0, .bool false, .slice none 0 0, vN, .slice none 0 0, vK] w6) (hC : Cur a len cap c w6) (hG : w.grownBy w6 (some c)) (hBW : B ≤ w6.heap.size)
    (hx : 0 ≤ x ∧ x < (rs.length : Int)) (hv : w7.ownsRow B 3 1 v' (ks ++ [x]).length ((ks ++ [x]).map (Value.int .i64))) (hg : w6.grownBy w7 vK.ownBlock) (hb : v'.ownBlock = vK.ownBlock ∨ ∃ g, v'.ownBlock = some g ∧ w6.heap.size ≤ g) :
    Seq6 a len cap c ad rs capd nm N B m jn (j - 1) w (w7.setCell ⟨N, 7, none⟩ v') := by
  have hlt : ∀ k, vK.ownBlock = some k → B ≤ k := fun k e => (World.ownsRow.lt hoK k e).1
  have hltN : ∀ k, vN.ownBlock = some k → B ≤ k ∧ k < w6.heap.size := fun k e => World.ownsRow.lt hoN k e
  have hX7 := hX.grown hg (by intro e; have := hlt _ e.symm; omega)
  have hZ7 := hZ.grown hg (by intro e; have := hlt _ e.symm; omega)
  have hO7 := (hO.grown hg (by intro e; have := hlt _ e.symm; omega)).set 7 v' (by simp)
  have hC7 := hC.grown hg (by intro e; have := hlt _ e.symm; omega) (fun b off ha hl => by intro e; have := hlt _ e.symm; have := hold b off ha hl; omega)
  have hN7 := own_keep hoN hg (fun g e f => hdis g e f)
  have hg8 := grown_set (grown_refl w7 N) 7 v'
  simp only [List.set] at hO7
  refine ⟨vN, v', ns, ks ++ [x], hns, fun y hy => ?_, by simp; omega, own_keep hN7 hg8 (fun g e f => ?_), own_keep hv hg8 (fun g e f => ?_), fun g e f => ?_, hX7.far (by omega), hZ7.far (by omega), hO7, hC7.put (by omega) (fun b off ha hl => by have := hold b off ha hl; omega), grown_put (grown_far hG hg (fun k e => by have := hlt _ e; omega)) (by omega), ?_⟩
  · rcases List.mem_append.1 hy with h | h
    · exact hks y h
    · rw [List.mem_singleton] at h; rw [h]; exact hx
  · have := (hltN g e).1; injection f with f; omega
  · have := (World.ownsRow.lt hv g e).1; injection f with f; omega
  · rcases hb with hb | ⟨q, hb, hq⟩
    · exact hdis g e (hb ▸ f)
    · rw [hb] at f; injection f with f; have := (hltN g e).2; omega
  · exact Nat.le_trans hBW (Nat.le_trans hg.size hg8.size)
end Go.Proofs.Ytnhijffemogpgaa
namespace Go.Proofs.Ytnhijffemogpgaa
open Go Go.RowKit
def pqr : List ByteArray := [⟨#[112]⟩, ⟨#[113]⟩, ⟨#[114]⟩]
theorem name_all : ∀ s ∈ bases ++ pqr, ∀ n : Fin 10, (∀ i : Fin (s ++ digitS n.val).size, nameAt (s ++ digitS n.val)[i.val] i.val) ∧ 1 ≤ (s ++ digitS n.val).size ∧ (s ++ digitS n.val).size ≤ 12 := by decide +kernel
theorem name_made {s : ByteArray} {n : Nat} (hs : s ∈ bases ++ pqr) (hn : n < 10) : nameB (s ++ digitS n) = true := by
  obtain ⟨h1, h2⟩ := name_all s hs ⟨n, hn⟩
  rw [nameB_end (fun i hi _ => h1 ⟨i, hi⟩)]
  exact decide_eq_true h2
theorem name_ne : ∀ s ∈ bases ++ pqr, ∀ t ∈ bases ++ pqr, ∀ n m : Fin 10, n ≠ m → s ++ digitS n.val ≠ t ++ digitS m.val := by decide +kernel
theorem made_ne {s t : ByteArray} {n m : Nat} (hs : s ∈ bases ++ pqr) (ht : t ∈ bases ++ pqr) (hn : n < 10) (hm : m < 10) (hne : n ≠ m) : s ++ digitS n ≠ t ++ digitS m := name_ne s hs t ht ⟨n, hn⟩ ⟨m, hm⟩ fun e => hne (by injection e)
theorem names_seq {m : Nat} {ns : List ByteArray} (h : SeqN m 0 ns) (h1 : 1 ≤ m) (h3 : m ≤ 3) : namesB ns = true := by
  obtain ⟨hl, hn⟩ := h
  have hl' : ns.length = m := by omega
  have hto : namesTo ns ns.length := fun i hi _ => by
    obtain ⟨s, hs, e⟩ := hn i hi
    refine ⟨?_, hasS_false fun hmem => ?_⟩
    · rw [e]; exact name_made (List.mem_append_right _ hs) (by omega)
    · obtain ⟨t, ht, e2⟩ := List.getElem_of_mem hmem
      rw [List.getElem_take] at e2
      have ht2 : t < i ∧ t < ns.length := by simp at ht; omega
      obtain ⟨s2, hs2, e3⟩ := hn t ht2.2
      rw [e3, e] at e2
      exact made_ne (List.mem_append_right _ hs2) (List.mem_append_right _ hs) (by omega) (by omega) (by omega) e2
  rw [namesB_end hto]
  exact decide_eq_true (by omega)
theorem kids_seq {n : Nat} {ks : List Int} (h : KidsN n ks) : kidsB ks (n : Int) = true := by
  unfold kidsB
  rw [List.all_eq_true]
  intro x hx
  have := h x hx
  exact decide_eq_true (by omega)
theorem kind6 {rs : List RuleV} {nm : ByteArray} {ns : List ByteArray} {ks : List Int} {m : Nat} (h : SeqN m 0 ns) (hk : ks.length + 0 = m) (h1 : 1 ≤ m) (h3 : m ≤ 3) : kindI rs ⟨nm, 6, 0, false, [], ns, [], ks⟩ = true := by
  have h2 := names_seq h h1 h3
  have h4 := h.1
  simp [kindI, meetsB, onlyR, sameR, h2]
  omega
theorem row_blk {α : Type} {f : α → Value} {B : Nat} {a : Option Addr} {xs : List α} {cap : Nat} {w : World} (h : RowF f B a xs cap w) : ∀ b ∈ sliceBlk (.slice a xs.length cap), B ≤ b := fun b hb => by
  rcases h.1 with rfl | ⟨g, off, rfl, hB, _⟩
  · cases a <;> simp [sliceBlk] at hb
  · cases xs with
    | nil => simp [sliceBlk] at hb
    | cons x xs => simp [sliceBlk] at hb; omega
end Go.Proofs.Ytnhijffemogpgaa
namespace Go.Proofs.Ytnhijffemogpgaa
open Go Go.RowKit
set_option maxRecDepth 100000 in
set_option maxHeartbeats 4000000 in
theorem make_6 (a : Option Addr) (len cap c base : Nat) (ad : Option Addr) (rs : List RuleV) (capd : Nat) (w : World) (hl : len ≤ 140737488355328) (hrs : rs.length ≤ 9) (h0 : 0 < rs.length) (hk0 : rs[0].kind = 1) (hrow : RowR base (.slice ad rs.length capd) rs w) (hcb : c < base) (hbw : base ≤ w.heap.size) (hc : Cur a len cap c w) :
    Calls Try.prog 63 #[.pointer (some ⟨c, 0, none⟩), .agg #[.slice ad rs.length capd], .int .i64 6] w (MakeOut a len cap c rs 6 w) := by
  have hcw : c < w.heap.size := by omega
  have hold := Lib.hid hc.old
  have HROW := Lib.hid hrow
  obtain ⟨w0, hw0⟩ : ∃ w0, w0 = (w.alloc (.cells #[.slice ad rs.length capd] 26)).alloc (.cells #[.string ⟨#[]⟩, .int .i64 0, .int .i64 0, .bool false, .slice none 0 0, .slice none 0 0, .slice none 0 0, .slice none 0 0] 38) := ⟨_, rfl⟩
  have hB : Below w.heap.size w w0 := by subst hw0; exact ((Below.refl _ _).alloc (Nat.le_refl _) _).alloc (by simp) _
  have hX : CellsAt w.heap.size [.slice ad rs.length capd] w0 := by subst hw0; exact (CellsAt.new w _ _).below ((Below.refl _ _).alloc (Nat.le_refl _) _)
  have hZ : CellsAt (w.heap.size + 1) [.string ⟨#[]⟩, .int .i64 0, .int .i64 0, .bool false, .slice none 0 0, .slice none 0 0, .slice none 0 0, .slice none 0 0] w0 := by
    subst hw0
    have h1 := CellsAt.new (w.alloc (.cells #[.slice ad rs.length capd] 26)) [.string ⟨#[]⟩, .int .i64 0, .int .i64 0, .bool false, .slice none 0 0, .slice none 0 0, .slice none 0 0, .slice none 0 0] 38
    simpa using h1
  have hs0 : Hid (w0.heap.size = w.heap.size + 2) := by subst hw0; show _ = _; simp
  have HC := Lib.hid (hc.below hB)
  have HG : Hid (w.grownBy w0 (some c)) := grown_of hB
  have HX := Lib.hid hX
  have HZ := Lib.hid hZ
  have hW := Lib.hid hw0
  clear hc hB hX hZ hw0 hrow
  go_enter Try.func63, Try.ntmps63
  go_wp2_with fail
  rw [← hW.out, show w.heap.size + 1 + 1 = w0.heap.size from by rw [hs0.out]]
  clear hW
  refine (str_pick a len cap c 5 [⟨#[97]⟩, ⟨#[105, 116, 101, 109]⟩, ⟨#[98]⟩, ⟨#[104, 101, 97, 100]⟩, ⟨#[120]⟩] _ rfl rfl w0 hl (by omega) (by omega) HC.out).mono ?_
  rintro e w1 ⟨s, hs, rfl, hc1, hg⟩
  replace HG := Lib.hid (Lib.grownBy_trans HG.out hg)
  replace HX := Lib.hid (HX.out.grown hg (by intro e; injection e with e; omega))
  replace HZ := Lib.hid (HZ.out.grown hg (by intro e; injection e with e; omega))
  replace HC := Lib.hid hc1
  have hs1 := Lib.hid hg.size
  clear hc1 hg
  have hss : s.size ≤ 4 := base_size hs
  have hsb := Lib.hid hs
  clear hs
  go_wp2_with fail
  refine (fmt_spec (rs.length : Int) _ (by omega) (by omega)).mono ?_
  rintro e w2 ⟨rfl, hb⟩
  replace HG := Lib.hid (grown_below HG.out hb)
  replace HC := Lib.hid (HC.out.below hb)
  replace HX := Lib.hid (HX.out.below hb)
  replace HZ := Lib.hid (HZ.out.below hb)
  have hs2 := Lib.hid hb.size
  clear hb
  have hd1 : (digitS rs.length).size = 1 := digit_one ⟨rs.length, by omega⟩
  have hadd := addS w2 s (digitS rs.length) (by omega)
  obtain ⟨nm, hnm⟩ : ∃ nm, nm = s ++ digitS rs.length := ⟨_, rfl⟩
  rw [← hnm] at hadd
  have HNM := Lib.hid hnm
  clear hnm
  unfold digitS at hadd
  go_upto_region 16 with fail
  clear hadd
  obtain ⟨w3, hw3⟩ : ∃ w3, w3 = w2.alloc (.cells #[.string nm, .int .i64 6, .int .i64 0, .bool false, .slice none 0 0, .slice none 0 0, .slice none 0 0, .slice none 0 0] 38) := ⟨_, rfl⟩
  rw [← hw3]
  have hb : Below w2.heap.size w2 w3 := by subst hw3; exact (Below.refl _ _).alloc (Nat.le_refl _) _
  have hO : CellsAt w2.heap.size [.string nm, .int .i64 6, .int .i64 0, .bool false, .slice none 0 0, .slice none 0 0, .slice none 0 0, .slice none 0 0] w3 := by subst hw3; exact CellsAt.new w2 _ _
  replace HG := Lib.hid (grown_below HG.out hb)
  replace HC := Lib.hid (HC.out.below hb)
  replace HX := Lib.hid (HX.out.below hb)
  replace HZ := Lib.hid (HZ.out.below hb)
  have HO := Lib.hid hO
  have hN : w.heap.size + 2 ≤ w2.heap.size := by have := hs0.out; have := hs1.out; have := hs2.out; omega
  have hs3 : Hid (w2.heap.size < w3.heap.size) := cell_lt (hO 0 _ rfl).1
  clear hb hO hw3 hs0 hs1 hs2
  obtain ⟨N, hNN⟩ : ∃ N, N = w2.heap.size := ⟨_, rfl⟩
  rw [← hNN] at HO hN hs3 ⊢
  clear hNN
  have _ := hk0
  go_wp2_with fail
  refine (below_draw a len cap c 3 _ hl (by omega) (by omega) HC.out).mono ?_
  rintro e w4 ⟨x, hx, rfl, hc1, hg⟩
  replace HG := Lib.hid (Lib.grownBy_trans HG.out hg)
  replace HX := Lib.hid (HX.out.grown hg (by intro e; injection e with e; omega))
  replace HZ := Lib.hid (HZ.out.grown hg (by intro e; injection e with e; omega))
  replace HO := Lib.hid (HO.out.grown hg (by intro e; injection e with e; omega))
  replace HC := Lib.hid hc1
  clear hc1 hg
  obtain ⟨x0, x1⟩ := hx
  obtain ⟨m, hm⟩ : ∃ m : Nat, 1 + x = (m : Int) := ⟨(1 + x).toNat, by omega⟩
  have m1 : 1 ≤ m := by omega
  have m3 : m ≤ 3 := by omega
  have hsz : N < w4.heap.size := cell_lt (HO.out 0 _ rfl).1
  obtain ⟨B, hB⟩ : ∃ B, B = w4.heap.size := ⟨_, rfl⟩
  have hNB : N < B := by omega
  have hst : Hid (Seq6 a len cap c ad rs capd nm N B m m m w w4) := ⟨.slice none 0 0, .slice none 0 0, [], [], ⟨by simp, fun t h => by simp at h⟩, fun x hx => by simp at hx, by simp, ⟨rfl, .inl ⟨rfl, rfl⟩⟩, ⟨rfl, .inl ⟨rfl, rfl⟩⟩, fun g hg => by simp [Value.ownBlock] at hg, HX.out, HZ.out, HO.out, HC.out, HG.out, by omega⟩
  clear HX HZ HO HC HG hs3 hB
  go_wp2
  go_loopw [9] (fun i W => ∃ j : Nat, j ≤ m ∧ i = .int .i64 j ∧ Hid (Seq6 a len cap c ad rs capd nm N B m j j w W)) (fun i _ => (intOf i).toNat)
  case atStart => exact ⟨m, Nat.le_refl _, rfl, hst⟩
  case round =>
    clear hst hm
    obtain ⟨j, hj, rfl, hsq⟩ := hrel
    by_cases hj0 : j = 0
    case pos =>
      subst hj0
      obtain ⟨vN, vK, ns, ks, hns, hks, hkl, hoN, hoK, hdis, hX, hZ, hO, hC, hG, hBW⟩ := hsq.out
      clear hsq
      obtain ⟨xn, cn, rfl, hrn⟩ := own_row (f := Value.string) hoN
      obtain ⟨xk, ck, rfl, hrk⟩ := own_row (f := Value.int .i64) hoK
      have HRN := Lib.hid hrn
      have HRK := Lib.hid hrk
      have HNS := Lib.hid hns
      have HKS := Lib.hid hks
      have HKL := Lib.hid hkl
      have HZ := Lib.hid hZ
      have HO := Lib.hid hO
      have HC := Lib.hid hC
      have HG := Lib.hid hG
      clear hns hks hkl hoN hoK hdis hX hZ hO hC hG hBW hrn hrk
      have hbx : Hid (∀ b ∈ ([.string nm, .int .i64 6, .int .i64 0, .bool false, .slice none 0 0, .slice xn ns.length cn, .slice none 0 0, .slice xk ks.length ck] : List Value).flatMap sliceBlk, w.heap.size + 2 ≤ b) := fun b hb => by
        have e : ([.string nm, .int .i64 6, .int .i64 0, .bool false, .slice none 0 0, .slice xn ns.length cn, .slice none 0 0, .slice xk ks.length ck] : List Value).flatMap sliceBlk = sliceBlk (.slice xn ns.length cn) ++ (sliceBlk (.slice xk ks.length ck) ++ []) := rfl
        rw [e, List.append_nil] at hb
        rcases List.mem_append.1 hb with hb | hb
        · have := row_blk HRN.out b hb; omega
        · have := row_blk HRK.out b hb; omega
      obtain ⟨o0, -⟩ := HO.out 0 _ rfl
      obtain ⟨o1, -⟩ := HO.out 1 _ rfl
      obtain ⟨o2, -⟩ := HO.out 2 _ rfl
      obtain ⟨o3, -⟩ := HO.out 3 _ rfl
      obtain ⟨o4, -⟩ := HO.out 4 _ rfl
      obtain ⟨o5, -⟩ := HO.out 5 _ rfl
      obtain ⟨o6, -⟩ := HO.out 6 _ rfl
      obtain ⟨o7, -⟩ := HO.out 7 _ rfl
      obtain ⟨z0, t0⟩ := HZ.out 0 _ rfl
      obtain ⟨z1, t1⟩ := HZ.out 1 _ rfl
      obtain ⟨z2, t2⟩ := HZ.out 2 _ rfl
      obtain ⟨z3, t3⟩ := HZ.out 3 _ rfl
      obtain ⟨z4, t4⟩ := HZ.out 4 _ rfl
      obtain ⟨z5, t5⟩ := HZ.out 5 _ rfl
      obtain ⟨z6, t6⟩ := HZ.out 6 _ rfl
      obtain ⟨z7, t7⟩ := HZ.out 7 _ rfl
      have hmk : Hid (MakeP a len cap c ⟨nm, 6, 0, false, [], ns, [], ks⟩ [.string nm, .int .i64 6, .int .i64 0, .bool false, .slice none 0 0, .slice xn ns.length cn, .slice none 0 0, .slice xk ks.length ck] w _) := ⟨⟨none, 0, xn, cn, none, 0, xk, ck, rfl, fun j hj => by simp at hj, HRN.out.rd, fun j hj => by simp at hj, HRK.out.rd⟩, HC.out, HG.out⟩
      have hbl : Hid (∀ b ∈ ([.string nm, .int .i64 6, .int .i64 0, .bool false, .slice none 0 0, .slice xn ns.length cn, .slice none 0 0, .slice xk ks.length ck] : List Value).flatMap sliceBlk, w.heap.size + 2 ≤ b) := hbx.out
      have hcp : Hid (Cap5 [.string nm, .int .i64 6, .int .i64 0, .bool false, .slice none 0 0, .slice xn ns.length cn, .slice none 0 0, .slice xk ks.length ck]) := fun a n c h => by simp at h; obtain ⟨_, rfl, rfl⟩ := h; exact HRN.out.2.1
      have hmd : Hid (MadeR rs ⟨nm, 6, 0, false, [], ns, [], ks⟩) := ⟨⟨s, hsb.out, HNM.out⟩, kids_seq HKS.out, kind6 HNS.out HKL.out m1 m3⟩
      go_wp2
      (try simp only [Exit.inBlock, Exit.then])
      refine bodyPost_ret (v := .agg #[.string nm, .int .i64 6, .int .i64 0, .bool false, .slice none 0 0, .slice xn ns.length cn, .slice none 0 0, .slice xk ks.length ck]) ?_ rfl ?_
      · simp [results, Try.results63, go_sem, z0, z1, z2, z3, z4, z5, z6, z7]
      · exact ⟨_, _, rfl, ⟨hmd.out, rfl⟩, hcp.out, fun b hb => by have := hbl.out b hb; omega, ((((((((hmk.out.put hbl.out hcw hold.out 0 _).put hbl.out hcw hold.out 1 _).put hbl.out hcw hold.out 2 _).put hbl.out hcw hold.out 3 _).put hbl.out hcw hold.out 4 _).put hbl.out hcw hold.out 5 _).put hbl.out hcw hold.out 6 _).put hbl.out hcw hold.out 7 _)⟩
    have j1 : (0 : Int) < (j : Int) := by omega
    obtain ⟨vN, vK, ns, ks, hns, hks, hkl, hoN, hoK, hdis, hX, hZ, hO, hC, hG, hBW⟩ := hsq.out
    clear hsq
    have HN := Lib.hid hoN
    have HK := Lib.hid hoK
    have HD := Lib.hid hdis
    have HX := Lib.hid hX
    have HZ := Lib.hid hZ
    have HO := Lib.hid hO
    have HC := Lib.hid hC
    have HG := Lib.hid hG
    have HNS := Lib.hid hns
    have HKS := Lib.hid hks
    have HBW := Lib.hid hBW
    have hkl2 := Lib.hid hkl
    have hnl : ns.length ≤ 3 := by have := hns.1; omega
    clear hns hks hkl hoN hoK hdis hX hZ hO hC hG hBW
    go_upto_region 19 with fail
    go_cut [9] from 73 to 95 (fun i W => i = .int .i64 (j : Int) ∧ Hid (Seq6 a len cap c ad rs capd nm N B m (j - 1) j w W))
    case first =>
      have o5a : (wr.alloc (.cells #[.string ⟨#[112]⟩, .string ⟨#[113]⟩, .string ⟨#[114]⟩] 9)).cell? ⟨N, 5, none⟩ = some vN := (HO.out.below ((Below.refl wr.heap.size wr).alloc (Nat.le_refl _) _) 5 _ rfl).1
      have hbd : Below wr.heap.size wr wr.drew := below_drewN (Below.refl _ _) 1
      have hgd0 : wr.grownBy wr.drew none := ⟨rfl, rfl, rfl, Nat.le_refl _, fun _ _ _ => rfl⟩
      replace HN := Lib.hid (own_keep HN.out hgd0 (fun g _ => by simp))
      replace HK := Lib.hid (own_keep HK.out hgd0 (fun g _ => by simp))
      replace HX := Lib.hid (HX.out.below hbd)
      replace HZ := Lib.hid (HZ.out.below hbd)
      replace HO := Lib.hid (HO.out.below hbd)
      replace HC := Lib.hid (HC.out.below hbd)
      replace HG := Lib.hid (grown_below HG.out hbd)
      replace HBW : Hid (B ≤ wr.drew.heap.size) := HBW.out
      have o5 : wr.cell? ⟨N, 5, none⟩ = some vN := (HO.out 5 _ rfl).1
      clear hbd hgd0
      go_region_law (first | (go_simp; go_at_call 86; refine (str_pick a len cap c 3 [⟨#[112]⟩, ⟨#[113]⟩, ⟨#[114]⟩] _ rfl rfl wr.drew hl (by omega) (by omega) HC.out).mono ?_; rintro e w5 ⟨y, hy, rfl, hc1, hg⟩; have hys := pqr_size hy; have HY := Lib.hid hy; replace HN := Lib.hid (own_keep HN.out hg (fun g hh => by intro e; injection e with e; have := (World.ownsRow.lt HN.out g hh).1; omega)); replace HK := Lib.hid (own_keep HK.out hg (fun g hh => by intro e; injection e with e; have := (World.ownsRow.lt HK.out g hh).1; omega)); replace HX := Lib.hid (HX.out.grown hg (by intro e; injection e with e; omega)); replace HZ := Lib.hid (HZ.out.grown hg (by intro e; injection e with e; omega)); replace HO := Lib.hid (HO.out.grown hg (by intro e; injection e with e; omega)); replace HG := Lib.hid (Lib.grownBy_trans HG.out hg); replace HBW := Lib.hid (Nat.le_trans HBW.out hg.size); replace HC := Lib.hid hc1; have o5b := (HO.out 5 _ rfl).1; clear hc1 hg hy) | (go_simp; go_at_call 87; refine (fmt_spec (j : Int) _ (by omega) (by omega)).mono ?_; rintro e w6 ⟨rfl, hb⟩; have hgn : w5.grownBy w6 none := ⟨hb.os, hb.tape, hb.output, hb.size, fun k hk _ => hb.block k hk⟩; replace HN := Lib.hid (own_keep HN.out hgn (fun g _ => by simp)); replace HK := Lib.hid (own_keep HK.out hgn (fun g _ => by simp)); replace HX := Lib.hid (HX.out.below hb); replace HZ := Lib.hid (HZ.out.below hb); replace HO := Lib.hid (HO.out.below hb); replace HC := Lib.hid (HC.out.below hb); replace HG := Lib.hid (grown_below HG.out hb); replace HBW := Lib.hid (Nat.le_trans HBW.out hb.size); have o5c := (HO.out 5 _ rfl).1; have hd1 : (digitS j).size = 1 := digit_one ⟨j, by omega⟩; have hadd := addS w6 y (digitS j) (by omega); obtain ⟨ny, hny⟩ : ∃ ny, ny = y ++ digitS j := ⟨_, rfl⟩; rw [← hny] at hadd; have HNY := Lib.hid hny; clear hny; unfold digitS at hadd; have o5d := (HO.out.below ((Below.refl w6.heap.size w6).alloc (Nat.le_refl _) (.cells #[.string ny] 9)) 5 _ rfl).1; clear hb hgn) | (refine step_pushF (f := Value.string) 35 9 (.string ⟨#[]⟩) 16 Try.underlying35 infoStr rfl (by rfl) (.tmp 78) (.tmp 85) (by rfl) B vN ns ny rfl w6 (by simp [Act.eval]) (by simp [Act.eval]) HN.out (by unfold maxLen; omega) (by omega) HBW.out ?_; intro v' w7 hown hg hblk; obtain ⟨x', c', rfl, -⟩ := own_row (f := Value.string) hown; have HV := Lib.hid hown; have HG7 := Lib.hid hg; have HB7 := Lib.hid hblk; obtain ⟨o5e, p5e⟩ := HO.out.grown hg (by intro e; have := (World.ownsRow.lt HN.out N e.symm).1; omega) 5 _ rfl; clear hown hg hblk))
      all_goals (go_wp2_with fail; go_meet; exact ⟨rfl, Seq6.name (y := y) (by omega) hcw hN hNB hold.out HNS.out HKS.out hkl2.out HN.out HK.out HD.out HX.out HZ.out HO.out HC.out HG.out HBW.out HY.out HNY.out (by have h := HV.out; rw [show (ns ++ [ny]).length = ns.length + 1 from by simp] at h ⊢; exact h) HG7.out (by have h := HB7.out; rw [show (ns ++ [ny]).length = ns.length + 1 from by simp] at h; exact h)⟩)
    case rest =>
      clear HN HK HD HX HZ HO HC HG HNS HKS HBW hkl2 hnl
      obtain ⟨rfl, hsq⟩ := hcut
      go_upto_region 20 with fail
      obtain ⟨vN, vK, ns, ks, hns, hks, hkl, hoN, hoK, hdis, hX, hZ, hO, hC, hG, hBW⟩ := hsq.out
      clear hsq
      have HNS := Lib.hid hns
      have HKS := Lib.hid hks
      have hkl2 := Lib.hid hkl
      have HD := Lib.hid hdis
      have hkn : ks.length ≤ 3 := by omega
      have o7 : wc.cell? ⟨N, 7, none⟩ = some vK := (hO 7 _ rfl).1
      have hbd : Below wc.heap.size wc wc.drew := below_drewN (Below.refl _ _) 1
      have hgd0 : wc.grownBy wc.drew none := ⟨rfl, rfl, rfl, Nat.le_refl _, fun _ _ _ => rfl⟩
      have HN := Lib.hid (own_keep hoN hgd0 (fun g _ => by simp))
      have HK := Lib.hid (own_keep hoK hgd0 (fun g _ => by simp))
      have HX := Lib.hid (hX.below hbd)
      have HZ := Lib.hid (hZ.below hbd)
      have HO := Lib.hid (hO.below hbd)
      have HC := Lib.hid (hC.below hbd)
      have HG := Lib.hid (grown_below hG hbd)
      have HBW : Hid (B ≤ wc.drew.heap.size) := hBW
      clear hns hks hkl hoN hoK hdis hX hZ hO hC hG hBW hbd hgd0
      go_region_law (first | (go_simp; go_at_call 64; refine (below_draw a len cap c (rs.length : Int) wc.drew hl (by omega) (by omega) HC.out).mono ?_; rintro e w5 ⟨y, hy, rfl, hc1, hg⟩; have HY := Lib.hid hy; replace HN := Lib.hid (own_keep HN.out hg (fun g hh => by intro e; injection e with e; have := (World.ownsRow.lt HN.out g hh).1; omega)); replace HK := Lib.hid (own_keep HK.out hg (fun g hh => by intro e; injection e with e; have := (World.ownsRow.lt HK.out g hh).1; omega)); replace HX := Lib.hid (HX.out.grown hg (by intro e; injection e with e; omega)); replace HZ := Lib.hid (HZ.out.grown hg (by intro e; injection e with e; omega)); replace HO := Lib.hid (HO.out.grown hg (by intro e; injection e with e; omega)); replace HG := Lib.hid (Lib.grownBy_trans HG.out hg); replace HBW := Lib.hid (Nat.le_trans HBW.out hg.size); replace HC := Lib.hid hc1; have o7b := (HO.out 7 _ rfl).1; have o7d := (HO.out.below ((Below.refl w5.heap.size w5).alloc (Nat.le_refl _) (.cells #[.int .i64 y] 3)) 7 _ rfl).1; clear hc1 hg hy) | (refine step_pushF (f := Value.int .i64) 36 3 (.int .i64 0) 8 Try.underlying36 infoInt rfl (by rfl) (.tmp 89) (.tmp 93) (by rfl) B vK ks y rfl w5 (by simp [Act.eval]) (by simp [Act.eval]) HK.out (by unfold maxLen; omega) (by omega) HBW.out ?_; intro v' w7 hown hg hblk; obtain ⟨x', c', rfl, -⟩ := own_row (f := Value.int .i64) hown; have HV := Lib.hid hown; have HG7 := Lib.hid hg; have HB7 := Lib.hid hblk; obtain ⟨o7e, p7e⟩ := HO.out.grown hg (by intro e; have := (World.ownsRow.lt HK.out N e.symm).1; omega) 7 _ rfl; clear hown hg hblk))
      all_goals (have hfin := Lib.hid (Seq6.kid (x := y) (by omega) hcw hN hNB hold.out HNS.out HKS.out hkl2.out HN.out HK.out HD.out HX.out HZ.out HO.out HC.out HG.out HBW.out HY.out (by have h := HV.out; rw [show (ks ++ [y]).length = ks.length + 1 from by simp] at h ⊢; exact h) HG7.out (by have h := HB7.out; rw [show (ks ++ [y]).length = ks.length + 1 from by simp] at h; exact h)); clear HNS HKS hkl2 HN HK HD HX HZ HO HC HG HBW HV HG7 HB7)
      all_goals go_wp2
      all_goals go_roundw
      all_goals first | exact ⟨j - 1, by omega, by congr 1; omega, hfin⟩ | exact ⟨j - 1, by omega, by rw [show ((j : Int) - 1) = ((j - 1 : Nat) : Int) from by omega], hfin⟩ | (simp [intOf]; omega)
end Go.Proofs.Ytnhijffemogpgaa
namespace Go.Proofs.Ytnhijffemogpgaa
open Go Go.RowKit
/-- A literal slice, as a row that the call owns. -/
theorem own_lit {α : Type} {f : α → Value} (w : World) (base : Nat) (e : TypeId) (xs : List α) (hb : base ≤ w.heap.size) (hm : xs.length ≤ maxLen) : (w.alloc (.cells (xs.map f).toArray e)).ownsRow base e 1 (.slice (some ⟨w.heap.size, 0, none⟩) xs.length xs.length) xs.length (xs.map f) :=
  ⟨by simp, .inr ⟨w.heap.size, xs.length, (xs.map f).toArray, rfl, hb, heap_alloc_new w _, Nat.le_refl _, hm, by simp, by simp; exact List.take_of_length_le (by simp)⟩⟩
/-- The tags of a drawn choice: each in its own four numbers. -/
def TagsN (m j : Nat) (ts : List Int) : Prop := ts.length + j = m ∧ ∀ t (h : t < ts.length), 4 * (t : Int) ≤ ts[t] ∧ ts[t] ≤ 4 * (t : Int) + 3
theorem TagsN.push {m j : Nat} {ts : List Int} (h : TagsN m j ts) (hj : 0 < j) {y : Int} (hy : 0 ≤ y ∧ y < 4) : TagsN m (j - 1) (ts ++ [4 * (ts.length : Int) + y]) := by
  obtain ⟨h1, h2⟩ := h
  refine ⟨by simp; omega, fun t ht => ?_⟩
  by_cases e : t < ts.length
  · rw [List.getElem_append_left e]; exact h2 t e
  · simp at ht
    obtain rfl : t = ts.length := by omega
    rw [List.getElem_append_right (Nat.le_refl _)]
    simp only [Nat.sub_self, List.getElem_cons_zero]
    omega
/-- The state of a drawn choice between two alternatives. -/
def Seq7 (a : Option Addr) (len cap c : Nat) (ad : Option Addr) (rs : List RuleV) (capd : Nat) (nm : ByteArray) (k0 : Int) (N B m jn jk : Nat) (w W : World) : Prop :=
  ∃ (vN vK : Value) (ns : List Int) (ks : List Int), TagsN m jn ns ∧ (KidsN rs.length ks ∧ ks.head? = some k0) ∧ ks.length + jk = m + 1 ∧
    W.ownsRow B 3 1 vN ns.length (ns.map (Value.int .i64)) ∧ W.ownsRow B 3 1 vK ks.length (ks.map (Value.int .i64)) ∧ (∀ g, vN.ownBlock = some g → vK.ownBlock ≠ some g) ∧
    CellsAt w.heap.size [.slice ad rs.length capd] W ∧ CellsAt (w.heap.size + 1) [.string ⟨#[]⟩, .int .i64 0, .int .i64 0, .bool false, .slice none 0 0, .slice none 0 0, .slice none 0 0, .slice none 0 0] W ∧ CellsAt N [.string nm, .int .i64 7, .int .i64 0, .bool false, .slice none 0 0, .slice none 0 0, vN, vK] W ∧ Cur a len cap c W ∧ w.grownBy W (some c) ∧ B ≤ W.heap.size
/-- One tag more. -/
theorem Seq7.tag {a : Option Addr} {len cap c : Nat} {ad : Option Addr} {rs : List RuleV} {capd : Nat} {nm : ByteArray} {k0 : Int} {N B m j jk : Nat} {w w6 w7 : World} {vN vK v' : Value} {ns : List Int} {ks : List Int} {y ny : Int} (hj : 0 < j)
    (hcw : c < w.heap.size) (hN : w.heap.size + 2 ≤ N) (hNB : N < B) (hold : ∀ b off, a = some ⟨b, off, none⟩ → 0 < len → b < w.heap.size)
    (hns : TagsN m j ns) (hks : KidsN rs.length ks ∧ ks.head? = some k0) (hkl : ks.length + jk = m + 1) (hoN : w6.ownsRow B 3 1 vN ns.length (ns.map (Value.int .i64))) (hoK : w6.ownsRow B 3 1 vK ks.length (ks.map (Value.int .i64))) (hdis : ∀ g, vN.ownBlock = some g → vK.ownBlock ≠ some g)
    (hX : CellsAt w.heap.size [.slice ad rs.length capd] w6) (hZ : CellsAt (w.heap.size + 1) [.string ⟨#[]⟩, .int .i64 0, .int .i64 0, .bool false, .slice none 0 0, .slice none 0 0, .slice none 0 0, .slice none 0 0] w6) (hO : CellsAt N [.string nm, .int .i64 7, .int .i64 0, .bool false, .slice none 0 0, .slice none 0 0, vN, vK] w6) (hC : Cur a len cap c w6) (hG : w.grownBy w6 (some c)) (hBW : B ≤ w6.heap.size)
    (hy : 0 ≤ y ∧ y < 4) (hny : ny = 4 * (ns.length : Int) + y) (hv : w7.ownsRow B 3 1 v' (ns ++ [ny]).length ((ns ++ [ny]).map (Value.int .i64))) (hg : w6.grownBy w7 vN.ownBlock) (hb : v'.ownBlock = vN.ownBlock ∨ ∃ g, v'.ownBlock = some g ∧ w6.heap.size ≤ g) :
    Seq7 a len cap c ad rs capd nm k0 N B m (j - 1) jk w (w7.setCell ⟨N, 6, none⟩ v') := by
  have hlt : ∀ k, vN.ownBlock = some k → B ≤ k := fun k e => (World.ownsRow.lt hoN k e).1
  have hltK : ∀ k, vK.ownBlock = some k → B ≤ k ∧ k < w6.heap.size := fun k e => World.ownsRow.lt hoK k e
  have hX7 := hX.grown hg (by intro e; have := hlt _ e.symm; omega)
  have hZ7 := hZ.grown hg (by intro e; have := hlt _ e.symm; omega)
  have hO7 := (hO.grown hg (by intro e; have := hlt _ e.symm; omega)).set 6 v' (by simp)
  have hC7 := hC.grown hg (by intro e; have := hlt _ e.symm; omega) (fun b off ha hl => by intro e; have := hlt _ e.symm; have := hold b off ha hl; omega)
  have hK7 := own_keep hoK hg (fun g e f => hdis g f e)
  have hg8 := grown_set (grown_refl w7 N) 6 v'
  simp only [List.set] at hO7
  refine ⟨v', vK, ns ++ [ny], ks, hny ▸ hns.push hj hy, hks, hkl, own_keep hv hg8 (fun g e f => ?_), own_keep hK7 hg8 (fun g e f => ?_), fun g e f => ?_, hX7.far (by omega), hZ7.far (by omega), hO7, hC7.put (by omega) (fun b off ha hl => by have := hold b off ha hl; omega), grown_put (grown_far hG hg (fun k e => by have := hlt _ e; omega)) (by omega), ?_⟩
  · have := (World.ownsRow.lt hv g e).1; injection f with f; omega
  · have := (hltK g e).1; injection f with f; omega
  · rcases hb with hb | ⟨q, hb, hq⟩
    · exact hdis g (hb ▸ e) f
    · rw [hb] at e; injection e with e; have := (hltK g f).2; omega
  · exact Nat.le_trans hBW (Nat.le_trans hg.size hg8.size)
/-- One kid more. -/
theorem Seq7.kid {a : Option Addr} {len cap c : Nat} {ad : Option Addr} {rs : List RuleV} {capd : Nat} {nm : ByteArray} {k0 : Int} {N B m jn j : Nat} {w w6 w7 : World} {vN vK v' : Value} {ns : List Int} {ks : List Int} {x : Int} (hj : 0 < j)
    (hcw : c < w.heap.size) (hN : w.heap.size + 2 ≤ N) (hNB : N < B) (hold : ∀ b off, a = some ⟨b, off, none⟩ → 0 < len → b < w.heap.size)
    (hns : TagsN m jn ns) (hks : KidsN rs.length ks ∧ ks.head? = some k0) (hkl : ks.length + j = m + 1) (hoN : w6.ownsRow B 3 1 vN ns.length (ns.map (Value.int .i64))) (hoK : w6.ownsRow B 3 1 vK ks.length (ks.map (Value.int .i64))) (hdis : ∀ g, vN.ownBlock = some g → vK.ownBlock ≠ some g)
    (hX : CellsAt w.heap.size [.slice ad rs.length capd] w6) (hZ : CellsAt (w.heap.size + 1) [.string ⟨#[]⟩, .int .i64 0, .int .i64 0, .bool false, .slice none 0 0, .slice none 0 0, .slice none 0 0, .slice none 0 0] w6) (hO : CellsAt N [.string nm, .int .i64 7, .int .i64 0, .bool false, .slice none 0 0, .slice none 0 0, vN, vK] w6) (hC : Cur a len cap c w6) (hG : w.grownBy w6 (some c)) (hBW : B ≤ w6.heap.size)
    (hx : 0 ≤ x ∧ x < (rs.length : Int)) (hv : w7.ownsRow B 3 1 v' (ks ++ [x]).length ((ks ++ [x]).map (Value.int .i64))) (hg : w6.grownBy w7 vK.ownBlock) (hb : v'.ownBlock = vK.ownBlock ∨ ∃ g, v'.ownBlock = some g ∧ w6.heap.size ≤ g) :
    Seq7 a len cap c ad rs capd nm k0 N B m jn (j - 1) w (w7.setCell ⟨N, 7, none⟩ v') := by
  have hlt : ∀ k, vK.ownBlock = some k → B ≤ k := fun k e => (World.ownsRow.lt hoK k e).1
  have hltN : ∀ k, vN.ownBlock = some k → B ≤ k ∧ k < w6.heap.size := fun k e => World.ownsRow.lt hoN k e
  have hX7 := hX.grown hg (by intro e; have := hlt _ e.symm; omega)
  have hZ7 := hZ.grown hg (by intro e; have := hlt _ e.symm; omega)
  have hO7 := (hO.grown hg (by intro e; have := hlt _ e.symm; omega)).set 7 v' (by simp)
  have hC7 := hC.grown hg (by intro e; have := hlt _ e.symm; omega) (fun b off ha hl => by intro e; have := hlt _ e.symm; have := hold b off ha hl; omega)
  have hN7 := own_keep hoN hg (fun g e f => hdis g e f)
  have hg8 := grown_set (grown_refl w7 N) 7 v'
  simp only [List.set] at hO7
  refine ⟨vN, v', ns, ks ++ [x], hns, ⟨fun y hy => ?_, by cases ks with | nil => simp at hks | cons k ks => exact hks.2⟩, by simp; omega, own_keep hN7 hg8 (fun g e f => ?_), own_keep hv hg8 (fun g e f => ?_), fun g e f => ?_, hX7.far (by omega), hZ7.far (by omega), hO7, hC7.put (by omega) (fun b off ha hl => by have := hold b off ha hl; omega), grown_put (grown_far hG hg (fun k e => by have := hlt _ e; omega)) (by omega), ?_⟩
  · rcases List.mem_append.1 hy with h | h
    · exact hks.1 y h
    · rw [List.mem_singleton] at h; rw [h]; exact hx
  · have := (hltN g e).1; injection f with f; omega
  · have := (World.ownsRow.lt hv g e).1; injection f with f; omega
  · rcases hb with hb | ⟨q, hb, hq⟩
    · exact hdis g e (hb ▸ f)
    · rw [hb] at f; injection f with f; have := (hltN g e).2; omega
  · exact Nat.le_trans hBW (Nat.le_trans hg.size hg8.size)
theorem tags_ok (lim : Int) : ∀ (ts : List Int) (lo : Int) (k : Nat), (∀ t (h : t < ts.length), 4 * ((k + t : Nat) : Int) ≤ ts[t] ∧ ts[t] ≤ 4 * ((k + t : Nat) : Int) + 3) → lo ≤ 4 * (k : Int) → 4 * ((k + ts.length : Nat) : Int) ≤ lim → tagsOk lim lo ts = true
  | [], _, _, _, _, _ => rfl
  | t :: ts, lo, k, h, h1, h2 => by
    have h0 := h 0 (by simp)
    simp only [List.getElem_cons_zero, Nat.add_zero] at h0
    have hl : (k + (t :: ts).length : Nat) = k + 1 + ts.length := by simp; omega
    unfold tagsOk
    rw [Bool.and_eq_true]
    refine ⟨decide_eq_true (by rw [hl] at h2; omega), tags_ok lim ts (t + 1) (k + 1) (fun j hj => ?_) (by omega) (by rw [hl] at h2; exact h2)⟩
    have := h (j + 1) (by simpa using hj)
    simp only [List.getElem_cons_succ] at this
    have e : k + 1 + j = k + (j + 1) := by omega
    rw [e]
    exact this
theorem limit_int {rs : List RuleV} {x : Int} (hs : ∀ r ∈ rs, r.kind = 1 → 1 ≤ r.size ∧ r.size ≤ 4) (h : IntAt rs x) : 255 ≤ limitAt rs x := by
  obtain ⟨n, hn, rfl, hk⟩ := h
  have h1 := hs _ (List.getElem_mem hn) hk
  rw [limitAt_in hn, if_pos ⟨hk, h1⟩]
  have := (pow256_bounds rs[n].size).1
  omega
theorem kind7 {rs : List RuleV} {nm : ByteArray} {ts ks : List Int} {k0 : Int} {m : Nat} (h : TagsN m 0 ts) (hk : KidsN rs.length ks ∧ ks.head? = some k0) (hl : ks.length + 0 = m + 1) (h1 : 1 ≤ m) (h3 : m ≤ 3) (hlim : 255 ≤ limitAt rs k0) : kindI rs ⟨nm, 7, 0, false, [], [], ts, ks⟩ = true := by
  obtain ⟨ht, hn⟩ := h
  have e : ks.headD 0 = k0 := by
    cases ks with
    | nil => simp at hk
    | cons k ks => simpa using hk.2
  have hok := tags_ok (limitAt rs k0) ts 0 0 (fun t h => by simpa using hn t h) (by omega) (by omega)
  have htb : tagsB rs ⟨nm, 7, 0, false, [], [], ts, ks⟩ = true := by
    unfold tagsB
    rw [Bool.and_eq_true]
    refine ⟨decide_eq_true ⟨by show ks.length = ts.length + 1; omega, by show 1 ≤ ts.length; omega, by show ts.length ≤ 8; omega⟩, ?_⟩
    show tagsOk (limitAt rs (ks.headD 0)) 0 ts = true
    rw [e]
    exact hok
  simp [kindI, meetsB, onlyR, sameR, htb]
end Go.Proofs.Ytnhijffemogpgaa
namespace Go.Proofs.Ytnhijffemogpgaa
open Go Go.RowKit
set_option maxRecDepth 100000 in
set_option maxHeartbeats 4000000 in
theorem make_7 (a : Option Addr) (len cap c base : Nat) (ad : Option Addr) (rs : List RuleV) (capd : Nat) (w : World) (hl : len ≤ 140737488355328) (hrs : rs.length ≤ 9) (h0 : 0 < rs.length) (hk0 : rs[0].kind = 1) (hint : ∀ r ∈ rs, r.kind = 1 → 1 ≤ r.size ∧ r.size ≤ 4) (hrow : RowR base (.slice ad rs.length capd) rs w) (hcb : c < base) (hbw : base ≤ w.heap.size) (hc : Cur a len cap c w) :
    Calls Try.prog 63 #[.pointer (some ⟨c, 0, none⟩), .agg #[.slice ad rs.length capd], .int .i64 7] w (MakeOut a len cap c rs 7 w) := by
  have hcw : c < w.heap.size := by omega
  have hold := Lib.hid hc.old
  have HROW := Lib.hid hrow
  obtain ⟨w0, hw0⟩ : ∃ w0, w0 = (w.alloc (.cells #[.slice ad rs.length capd] 26)).alloc (.cells #[.string ⟨#[]⟩, .int .i64 0, .int .i64 0, .bool false, .slice none 0 0, .slice none 0 0, .slice none 0 0, .slice none 0 0] 38) := ⟨_, rfl⟩
  have hB : Below w.heap.size w w0 := by subst hw0; exact ((Below.refl _ _).alloc (Nat.le_refl _) _).alloc (by simp) _
  have hX : CellsAt w.heap.size [.slice ad rs.length capd] w0 := by subst hw0; exact (CellsAt.new w _ _).below ((Below.refl _ _).alloc (Nat.le_refl _) _)
  have hZ : CellsAt (w.heap.size + 1) [.string ⟨#[]⟩, .int .i64 0, .int .i64 0, .bool false, .slice none 0 0, .slice none 0 0, .slice none 0 0, .slice none 0 0] w0 := by
    subst hw0
    have h1 := CellsAt.new (w.alloc (.cells #[.slice ad rs.length capd] 26)) [.string ⟨#[]⟩, .int .i64 0, .int .i64 0, .bool false, .slice none 0 0, .slice none 0 0, .slice none 0 0, .slice none 0 0] 38
    simpa using h1
  have hs0 : Hid (w0.heap.size = w.heap.size + 2) := by subst hw0; show _ = _; simp
  have HC := Lib.hid (hc.below hB)
  have HG : Hid (w.grownBy w0 (some c)) := grown_of hB
  have HX := Lib.hid hX
  have HZ := Lib.hid hZ
  have hW := Lib.hid hw0
  clear hc hB hX hZ hw0 hrow
  go_enter Try.func63, Try.ntmps63
  go_wp2_with fail
  rw [← hW.out, show w.heap.size + 1 + 1 = w0.heap.size from by rw [hs0.out]]
  clear hW
  refine (str_pick a len cap c 5 [⟨#[97]⟩, ⟨#[105, 116, 101, 109]⟩, ⟨#[98]⟩, ⟨#[104, 101, 97, 100]⟩, ⟨#[120]⟩] _ rfl rfl w0 hl (by omega) (by omega) HC.out).mono ?_
  rintro e w1 ⟨s, hs, rfl, hc1, hg⟩
  replace HG := Lib.hid (Lib.grownBy_trans HG.out hg)
  replace HX := Lib.hid (HX.out.grown hg (by intro e; injection e with e; omega))
  replace HZ := Lib.hid (HZ.out.grown hg (by intro e; injection e with e; omega))
  replace HC := Lib.hid hc1
  have hs1 := Lib.hid hg.size
  clear hc1 hg
  have hss : s.size ≤ 4 := base_size hs
  have hsb := Lib.hid hs
  clear hs
  go_wp2_with fail
  refine (fmt_spec (rs.length : Int) _ (by omega) (by omega)).mono ?_
  rintro e w2 ⟨rfl, hb⟩
  replace HG := Lib.hid (grown_below HG.out hb)
  replace HC := Lib.hid (HC.out.below hb)
  replace HX := Lib.hid (HX.out.below hb)
  replace HZ := Lib.hid (HZ.out.below hb)
  have hs2 := Lib.hid hb.size
  clear hb
  have hd1 : (digitS rs.length).size = 1 := digit_one ⟨rs.length, by omega⟩
  have hadd := addS w2 s (digitS rs.length) (by omega)
  obtain ⟨nm, hnm⟩ : ∃ nm, nm = s ++ digitS rs.length := ⟨_, rfl⟩
  rw [← hnm] at hadd
  have HNM := Lib.hid hnm
  clear hnm
  unfold digitS at hadd
  go_upto_region 22 with fail
  clear hadd
  obtain ⟨w3, hw3⟩ : ∃ w3, w3 = w2.alloc (.cells #[.string nm, .int .i64 7, .int .i64 0, .bool false, .slice none 0 0, .slice none 0 0, .slice none 0 0, .slice none 0 0] 38) := ⟨_, rfl⟩
  rw [← hw3]
  have hb : Below w2.heap.size w2 w3 := by subst hw3; exact (Below.refl _ _).alloc (Nat.le_refl _) _
  have hO : CellsAt w2.heap.size [.string nm, .int .i64 7, .int .i64 0, .bool false, .slice none 0 0, .slice none 0 0, .slice none 0 0, .slice none 0 0] w3 := by subst hw3; exact CellsAt.new w2 _ _
  replace HG := Lib.hid (grown_below HG.out hb)
  replace HC := Lib.hid (HC.out.below hb)
  replace HX := Lib.hid (HX.out.below hb)
  replace HZ := Lib.hid (HZ.out.below hb)
  have HO := Lib.hid hO
  have hN : w.heap.size + 2 ≤ w2.heap.size := by have := hs0.out; have := hs1.out; have := hs2.out; omega
  have hs3 : Hid (w2.heap.size < w3.heap.size) := cell_lt (hO 0 _ rfl).1
  clear hb hO hw3 hs0 hs1 hs2
  obtain ⟨N, hNN⟩ : ∃ N, N = w2.heap.size := ⟨_, rfl⟩
  rw [← hNN] at HO hN hs3 ⊢
  clear hNN
  have bx := (HX.out 0 _ rfl).1
  go_wp2_with fail
  refine (integer_draw a len cap c ad rs capd _ hl (by omega) h0 hk0 (HROW.out.grown HG.out hcb).at.rd HC.out).mono ?_
  rintro e w4 ⟨x, hx, rfl, hc1, hg⟩
  replace HG := Lib.hid (Lib.grownBy_trans HG.out hg)
  replace HX := Lib.hid (HX.out.grown hg (by intro e; injection e with e; omega))
  replace HZ := Lib.hid (HZ.out.grown hg (by intro e; injection e with e; omega))
  replace HO := Lib.hid (HO.out.grown hg (by intro e; injection e with e; omega))
  replace HC := Lib.hid hc1
  clear hc1 hg
  clear bx
  have HLIM := Lib.hid (limit_int hint hx)
  have hxr : Hid (0 ≤ x ∧ x < (rs.length : Int)) := by obtain ⟨n, hn, rfl, _⟩ := hx; exact ⟨by omega, by omega⟩
  clear hx hint
  have hsz : N < w4.heap.size := cell_lt (HO.out 0 _ rfl).1
  have hbl0 : Below w4.heap.size w4 (w4.alloc (.cells #[.int .i64 x] 3)) := (Below.refl _ _).alloc (Nat.le_refl _) _
  obtain ⟨o7, p7⟩ := HO.out.below hbl0 7 _ rfl
  clear hbl0
  go_upto_region 23 with fail
  clear o7 p7
  have hszl : (w4.setCell ⟨N, 7, none⟩ (.slice (some ⟨w4.heap.size, 0, none⟩) 1 1)).heap.size = w4.heap.size := by simp
  obtain ⟨w5l, hv⟩ : ∃ v, v = w4.setCell ⟨N, 7, none⟩ (.slice (some ⟨w4.heap.size, 0, none⟩) 1 1) := ⟨_, rfl⟩
  rw [← hv]
  (try rw [← hv] at hszl)
  replace HO := Lib.hid (HO.out.set 7 (.slice (some ⟨w4.heap.size, 0, none⟩) 1 1) (by simp))
  rw [← hv] at HO
  simp only [List.set] at HO
  replace HX := Lib.hid (HX.out.far (b' := N) (j := 7) (v := .slice (some ⟨w4.heap.size, 0, none⟩) 1 1) (by omega))
  rw [← hv] at HX
  replace HZ := Lib.hid (HZ.out.far (b' := N) (j := 7) (v := .slice (some ⟨w4.heap.size, 0, none⟩) 1 1) (by omega))
  rw [← hv] at HZ
  replace HC := Lib.hid (HC.out.put (q := N) (i := 7) (v := .slice (some ⟨w4.heap.size, 0, none⟩) 1 1) (by omega) (fun b off ha hl => by have := hold.out b off ha hl; omega))
  rw [← hv] at HC
  replace HG := Lib.hid (grown_put (q := N) (i := 7) (v := .slice (some ⟨w4.heap.size, 0, none⟩) 1 1) HG.out (by omega))
  rw [← hv] at HG
  clear hv
  obtain ⟨w5, hvl⟩ : ∃ v, v = w5l.alloc (.cells #[.int .i64 x] 3) := ⟨_, rfl⟩
  rw [← hvl]
  have hb : Below w5l.heap.size w5l w5 := by subst hvl; exact (Below.refl _ _).alloc (Nat.le_refl _) _
  obtain ⟨B, hB⟩ : ∃ B, B = w4.heap.size := ⟨_, rfl⟩
  rw [← hB] at hszl HO ⊢
  have hNB : N < B := by omega
  have hown : w5.ownsRow B 3 1 (.slice (some ⟨B, 0, none⟩) 1 1) ([x] : List Int).length (([x] : List Int).map (Value.int .i64)) := by
    have h1 := own_lit (f := Value.int .i64) w5l B 3 [x] (by omega) (by unfold maxLen; simp)
    rw [hszl] at h1
    rw [hvl]
    exact h1
  replace HG := Lib.hid (grown_below HG.out hb)
  replace HC := Lib.hid (HC.out.below hb)
  replace HX := Lib.hid (HX.out.below hb)
  replace HZ := Lib.hid (HZ.out.below hb)
  replace HO := Lib.hid (HO.out.below hb)
  have hs5 : B ≤ w5.heap.size := by have := hb.size; omega
  clear hb hvl hB
  have HOW := Lib.hid hown
  clear hown
  go_wp2_with fail
  refine (below_draw a len cap c 3 _ hl (by omega) (by omega) HC.out).mono ?_
  rintro e w6 ⟨y, hx, rfl, hc1, hg⟩
  replace HG := Lib.hid (Lib.grownBy_trans HG.out hg)
  replace HX := Lib.hid (HX.out.grown hg (by intro e; injection e with e; omega))
  replace HZ := Lib.hid (HZ.out.grown hg (by intro e; injection e with e; omega))
  replace HO := Lib.hid (HO.out.grown hg (by intro e; injection e with e; omega))
  replace HC := Lib.hid hc1
  replace HOW := Lib.hid (own_keep HOW.out hg (fun g hh => by intro e; injection e with e; have := (World.ownsRow.lt HOW.out g hh).1; omega))
  have hs6 := hg.size
  clear hc1 hg
  obtain ⟨x0, x1⟩ := hx
  obtain ⟨m, hm⟩ : ∃ m : Nat, 1 + y = (m : Int) := ⟨(1 + y).toNat, by omega⟩
  have m1 : 1 ≤ m := by omega
  have m3 : m ≤ 3 := by omega
  have hst : Hid (Seq7 a len cap c ad rs capd nm x N B m m m w w6) := ⟨.slice none 0 0, .slice (some ⟨B, 0, none⟩) 1 1, [], [x], ⟨by simp, fun t h => by simp at h⟩, ⟨fun z hz => by rw [List.mem_singleton] at hz; rw [hz]; exact hxr.out, rfl⟩, by simp; omega, ⟨rfl, .inl ⟨rfl, rfl⟩⟩, HOW.out, fun g hg => by simp [Value.ownBlock] at hg, HX.out, HZ.out, HO.out, HC.out, HG.out, by omega⟩
  clear HX HZ HO HC HG HOW hs3 hxr hszl hsz
  go_wp2
  go_loopw [10] (fun i W => ∃ j : Nat, j ≤ m ∧ i = .int .i64 j ∧ Hid (Seq7 a len cap c ad rs capd nm x N B m j j w W)) (fun i _ => (intOf i).toNat)
  case atStart => exact ⟨m, Nat.le_refl _, rfl, hst⟩
  case round =>
    clear hst hm
    obtain ⟨j, hj, rfl, hsq⟩ := hrel
    by_cases hj0 : j = 0
    case pos =>
      subst hj0
      obtain ⟨vN, vK, ns, ks, hns, hks, hkl, hoN, hoK, hdis, hX, hZ, hO, hC, hG, hBW⟩ := hsq.out
      clear hsq
      obtain ⟨xn, cn, rfl, hrn⟩ := own_row (f := Value.int .i64) hoN
      obtain ⟨xk, ck, rfl, hrk⟩ := own_row (f := Value.int .i64) hoK
      have HRN := Lib.hid hrn
      have HRK := Lib.hid hrk
      have HNS := Lib.hid hns
      have HKS := Lib.hid hks
      have HKL := Lib.hid hkl
      have HZ := Lib.hid hZ
      have HO := Lib.hid hO
      have HC := Lib.hid hC
      have HG := Lib.hid hG
      clear hns hks hkl hoN hoK hdis hX hZ hO hC hG hBW hrn hrk
      have hbx : Hid (∀ b ∈ ([.string nm, .int .i64 7, .int .i64 0, .bool false, .slice none 0 0, .slice none 0 0, .slice xn ns.length cn, .slice xk ks.length ck] : List Value).flatMap sliceBlk, w.heap.size + 2 ≤ b) := fun b hb => by
        have e : ([.string nm, .int .i64 7, .int .i64 0, .bool false, .slice none 0 0, .slice none 0 0, .slice xn ns.length cn, .slice xk ks.length ck] : List Value).flatMap sliceBlk = sliceBlk (.slice xn ns.length cn) ++ (sliceBlk (.slice xk ks.length ck) ++ []) := rfl
        rw [e, List.append_nil] at hb
        rcases List.mem_append.1 hb with hb | hb
        · have := row_blk HRN.out b hb; omega
        · have := row_blk HRK.out b hb; omega
      obtain ⟨o0, -⟩ := HO.out 0 _ rfl
      obtain ⟨o1, -⟩ := HO.out 1 _ rfl
      obtain ⟨o2, -⟩ := HO.out 2 _ rfl
      obtain ⟨o3, -⟩ := HO.out 3 _ rfl
      obtain ⟨o4, -⟩ := HO.out 4 _ rfl
      obtain ⟨o5, -⟩ := HO.out 5 _ rfl
      obtain ⟨o6, -⟩ := HO.out 6 _ rfl
      obtain ⟨o7, -⟩ := HO.out 7 _ rfl
      obtain ⟨z0, t0⟩ := HZ.out 0 _ rfl
      obtain ⟨z1, t1⟩ := HZ.out 1 _ rfl
      obtain ⟨z2, t2⟩ := HZ.out 2 _ rfl
      obtain ⟨z3, t3⟩ := HZ.out 3 _ rfl
      obtain ⟨z4, t4⟩ := HZ.out 4 _ rfl
      obtain ⟨z5, t5⟩ := HZ.out 5 _ rfl
      obtain ⟨z6, t6⟩ := HZ.out 6 _ rfl
      obtain ⟨z7, t7⟩ := HZ.out 7 _ rfl
      have hmk : Hid (MakeP a len cap c ⟨nm, 7, 0, false, [], [], ns, ks⟩ [.string nm, .int .i64 7, .int .i64 0, .bool false, .slice none 0 0, .slice none 0 0, .slice xn ns.length cn, .slice xk ks.length ck] w _) := ⟨⟨none, 0, none, 0, xn, cn, xk, ck, rfl, fun j hj => by simp at hj, fun j hj => by simp at hj, HRN.out.rd, HRK.out.rd⟩, HC.out, HG.out⟩
      have hbl : Hid (∀ b ∈ ([.string nm, .int .i64 7, .int .i64 0, .bool false, .slice none 0 0, .slice none 0 0, .slice xn ns.length cn, .slice xk ks.length ck] : List Value).flatMap sliceBlk, w.heap.size + 2 ≤ b) := hbx.out
      have hcp : Hid (Cap5 [.string nm, .int .i64 7, .int .i64 0, .bool false, .slice none 0 0, .slice none 0 0, .slice xn ns.length cn, .slice xk ks.length ck]) := fun a n c h => by simp at h; obtain ⟨_, rfl, rfl⟩ := h; exact Nat.le_refl _
      have hmd : Hid (MadeR rs ⟨nm, 7, 0, false, [], [], ns, ks⟩) := ⟨⟨s, hsb.out, HNM.out⟩, kids_seq HKS.out.1, kind7 HNS.out HKS.out HKL.out m1 m3 HLIM.out⟩
      go_wp2
      (try simp only [Exit.inBlock, Exit.then])
      refine bodyPost_ret (v := .agg #[.string nm, .int .i64 7, .int .i64 0, .bool false, .slice none 0 0, .slice none 0 0, .slice xn ns.length cn, .slice xk ks.length ck]) ?_ rfl ?_
      · simp [results, Try.results63, go_sem, z0, z1, z2, z3, z4, z5, z6, z7]
      · exact ⟨_, _, rfl, ⟨hmd.out, rfl⟩, hcp.out, fun b hb => by have := hbl.out b hb; omega, ((((((((hmk.out.put hbl.out hcw hold.out 0 _).put hbl.out hcw hold.out 1 _).put hbl.out hcw hold.out 2 _).put hbl.out hcw hold.out 3 _).put hbl.out hcw hold.out 4 _).put hbl.out hcw hold.out 5 _).put hbl.out hcw hold.out 6 _).put hbl.out hcw hold.out 7 _)⟩
    have j1 : (0 : Int) < (j : Int) := by omega
    obtain ⟨vN, vK, ns, ks, hns, hks, hkl, hoN, hoK, hdis, hX, hZ, hO, hC, hG, hBW⟩ := hsq.out
    clear hsq
    obtain ⟨xt, ct, hvt, -⟩ := own_row (f := Value.int .i64) hoN
    subst hvt
    have HN := Lib.hid hoN
    have HK := Lib.hid hoK
    have HD := Lib.hid hdis
    have HX := Lib.hid hX
    have HZ := Lib.hid hZ
    have HO := Lib.hid hO
    have HC := Lib.hid hC
    have HG := Lib.hid hG
    have HNS := Lib.hid hns
    have HKS := Lib.hid hks
    have HBW := Lib.hid hBW
    have hkl2 := Lib.hid hkl
    have hnl : ns.length ≤ 3 := by have := hns.1; omega
    clear hns hks hkl hoN hoK hdis hX hZ hO hC hG hBW
    go_upto_region 26 with fail
    go_cut [10] from 106 to 129 (fun i W => i = .int .i64 (j : Int) ∧ Hid (Seq7 a len cap c ad rs capd nm x N B m (j - 1) j w W))
    case first =>
      have hbd : Below wr.heap.size wr wr.drew := below_drewN (Below.refl _ _) 1
      have hgd0 : wr.grownBy wr.drew none := ⟨rfl, rfl, rfl, Nat.le_refl _, fun _ _ _ => rfl⟩
      replace HN := Lib.hid (own_keep HN.out hgd0 (fun g _ => by simp))
      replace HK := Lib.hid (own_keep HK.out hgd0 (fun g _ => by simp))
      replace HX := Lib.hid (HX.out.below hbd)
      replace HZ := Lib.hid (HZ.out.below hbd)
      replace HO := Lib.hid (HO.out.below hbd)
      replace HC := Lib.hid (HC.out.below hbd)
      replace HG := Lib.hid (grown_below HG.out hbd)
      replace HBW : Hid (B ≤ wr.drew.heap.size) := HBW.out
      have o6 : wr.cell? ⟨N, 6, none⟩ = some (.slice xt ns.length ct) := (HO.out 6 _ rfl).1
      have hw1 : IntKind.i64.wrap (4 * (ns.length : Int)) = 4 * (ns.length : Int) := IntWalk.i64_in _ (by omega)
      clear hbd hgd0
      go_region_law (first | (go_simp; go_at_call 64; refine (below_draw a len cap c 4 wr.drew hl (by omega) (by omega) HC.out).mono ?_; rintro e w5 ⟨y, ⟨y0, y1⟩, rfl, hc1, hg⟩; have HY : Hid (0 ≤ y ∧ y < 4) := ⟨y0, y1⟩; obtain ⟨ny, hny⟩ : ∃ ny, ny = 4 * (ns.length : Int) + y := ⟨_, rfl⟩; have hw2 : 4 * (ns.length : Int) + y = ny := hny.symm; have hw3 : IntKind.i64.wrap ny = ny := IntWalk.i64_in _ (by omega); have HNY := Lib.hid hny; clear hny; replace HN := Lib.hid (own_keep HN.out hg (fun g hh => by intro e; injection e with e; have := (World.ownsRow.lt HN.out g hh).1; omega)); replace HK := Lib.hid (own_keep HK.out hg (fun g hh => by intro e; injection e with e; have := (World.ownsRow.lt HK.out g hh).1; omega)); replace HX := Lib.hid (HX.out.grown hg (by intro e; injection e with e; omega)); replace HZ := Lib.hid (HZ.out.grown hg (by intro e; injection e with e; omega)); replace HO := Lib.hid (HO.out.grown hg (by intro e; injection e with e; omega)); replace HG := Lib.hid (Lib.grownBy_trans HG.out hg); replace HBW := Lib.hid (Nat.le_trans HBW.out hg.size); replace HC := Lib.hid hc1; have o6b := (HO.out 6 _ rfl).1; have o6d := (HO.out.below ((Below.refl w5.heap.size w5).alloc (Nat.le_refl _) (.cells #[.int .i64 ny] 3)) 6 _ rfl).1; clear hc1 hg) | (refine step_pushF (f := Value.int .i64) 36 3 (.int .i64 0) 8 Try.underlying36 infoInt rfl (by rfl) (.tmp 111) (.tmp 119) (by rfl) B (.slice xt ns.length ct) ns ny rfl w5 (by simp [Act.eval]) (by simp [Act.eval]) HN.out (by unfold maxLen; omega) (by omega) HBW.out ?_; intro v' w7 hown hg hblk; obtain ⟨x', c', rfl, -⟩ := own_row (f := Value.int .i64) hown; have HV := Lib.hid hown; have HG7 := Lib.hid hg; have HB7 := Lib.hid hblk; obtain ⟨o6e, p6e⟩ := HO.out.grown hg (by intro e; have := (World.ownsRow.lt HN.out N e.symm).1; omega) 6 _ rfl; clear hown hg hblk))
      all_goals (go_wp2_with fail; go_meet; exact ⟨rfl, Seq7.tag (y := y) (by omega) hcw hN hNB hold.out HNS.out HKS.out hkl2.out HN.out HK.out HD.out HX.out HZ.out HO.out HC.out HG.out HBW.out HY.out HNY.out (by have h := HV.out; rw [show (ns ++ [ny]).length = ns.length + 1 from by simp] at h ⊢; exact h) HG7.out (by have h := HB7.out; rw [show (ns ++ [ny]).length = ns.length + 1 from by simp] at h; exact h)⟩)
    case rest =>
      clear HN HK HD HX HZ HO HC HG HNS HKS HBW hkl2 hnl
      obtain ⟨rfl, hsq⟩ := hcut
      go_upto_region 27 with fail
      obtain ⟨vN, vK, ns, ks, hns, hks, hkl, hoN, hoK, hdis, hX, hZ, hO, hC, hG, hBW⟩ := hsq.out
      clear hsq
      have HNS := Lib.hid hns
      have HKS := Lib.hid hks
      have hkl2 := Lib.hid hkl
      have HD := Lib.hid hdis
      have hkn : ks.length ≤ 4 := by omega
      have o7 : wc.cell? ⟨N, 7, none⟩ = some vK := (hO 7 _ rfl).1
      have hbd : Below wc.heap.size wc wc.drew := below_drewN (Below.refl _ _) 1
      have hgd0 : wc.grownBy wc.drew none := ⟨rfl, rfl, rfl, Nat.le_refl _, fun _ _ _ => rfl⟩
      have HN := Lib.hid (own_keep hoN hgd0 (fun g _ => by simp))
      have HK := Lib.hid (own_keep hoK hgd0 (fun g _ => by simp))
      have HX := Lib.hid (hX.below hbd)
      have HZ := Lib.hid (hZ.below hbd)
      have HO := Lib.hid (hO.below hbd)
      have HC := Lib.hid (hC.below hbd)
      have HG := Lib.hid (grown_below hG hbd)
      have HBW : Hid (B ≤ wc.drew.heap.size) := hBW
      clear hns hks hkl hoN hoK hdis hX hZ hO hC hG hBW hbd hgd0
      go_region_law (first | (go_simp; go_at_call 64; refine (below_draw a len cap c (rs.length : Int) wc.drew hl (by omega) (by omega) HC.out).mono ?_; rintro e w5 ⟨y, hy, rfl, hc1, hg⟩; have HY := Lib.hid hy; replace HN := Lib.hid (own_keep HN.out hg (fun g hh => by intro e; injection e with e; have := (World.ownsRow.lt HN.out g hh).1; omega)); replace HK := Lib.hid (own_keep HK.out hg (fun g hh => by intro e; injection e with e; have := (World.ownsRow.lt HK.out g hh).1; omega)); replace HX := Lib.hid (HX.out.grown hg (by intro e; injection e with e; omega)); replace HZ := Lib.hid (HZ.out.grown hg (by intro e; injection e with e; omega)); replace HO := Lib.hid (HO.out.grown hg (by intro e; injection e with e; omega)); replace HG := Lib.hid (Lib.grownBy_trans HG.out hg); replace HBW := Lib.hid (Nat.le_trans HBW.out hg.size); replace HC := Lib.hid hc1; have o7b := (HO.out 7 _ rfl).1; have o7d := (HO.out.below ((Below.refl w5.heap.size w5).alloc (Nat.le_refl _) (.cells #[.int .i64 y] 3)) 7 _ rfl).1; clear hc1 hg hy) | (refine step_pushF (f := Value.int .i64) 36 3 (.int .i64 0) 8 Try.underlying36 infoInt rfl (by rfl) (.tmp 123) (.tmp 127) (by rfl) B vK ks y rfl w5 (by simp [Act.eval]) (by simp [Act.eval]) HK.out (by unfold maxLen; omega) (by omega) HBW.out ?_; intro v' w7 hown hg hblk; obtain ⟨x', c', rfl, -⟩ := own_row (f := Value.int .i64) hown; have HV := Lib.hid hown; have HG7 := Lib.hid hg; have HB7 := Lib.hid hblk; obtain ⟨o7e, p7e⟩ := HO.out.grown hg (by intro e; have := (World.ownsRow.lt HK.out N e.symm).1; omega) 7 _ rfl; clear hown hg hblk))
      all_goals (have hfin := Lib.hid (Seq7.kid (x := y) (by omega) hcw hN hNB hold.out HNS.out HKS.out hkl2.out HN.out HK.out HD.out HX.out HZ.out HO.out HC.out HG.out HBW.out HY.out (by have h := HV.out; rw [show (ks ++ [y]).length = ks.length + 1 from by simp] at h ⊢; exact h) HG7.out (by have h := HB7.out; rw [show (ks ++ [y]).length = ks.length + 1 from by simp] at h; exact h)); clear HNS HKS hkl2 HN HK HD HX HZ HO HC HG HBW HV HG7 HB7)
      all_goals go_wp2
      all_goals go_roundw
      all_goals first | exact ⟨j - 1, by omega, by congr 1; omega, hfin⟩ | exact ⟨j - 1, by omega, by rw [show ((j : Int) - 1) = ((j - 1 : Nat) : Int) from by omega], hfin⟩ | (simp [intOf]; omega)
end Go.Proofs.Ytnhijffemogpgaa
namespace Go.Proofs.Ytnhijffemogpgaa
open Go Go.RowKit
theorem make_any (a : Option Addr) (len cap c base : Nat) (ad : Option Addr) (rs : List RuleV) (capd : Nat) (k : Int) (w : World) (hl : len ≤ 140737488355328) (hk : 1 ≤ k ∧ k ≤ 10) (hrs : rs.length ≤ 9) (h0 : 0 < rs.length) (hk0 : rs[0].kind = 1) (hint : ∀ r ∈ rs, r.kind = 1 → 1 ≤ r.size ∧ r.size ≤ 4) (hrow : RowR base (.slice ad rs.length capd) rs w) (hcb : c < base) (hbw : base ≤ w.heap.size) (hc : Cur a len cap c w) :
    Calls Try.prog 63 #[.pointer (some ⟨c, 0, none⟩), .agg #[.slice ad rs.length capd], .int .i64 k] w (MakeOut a len cap c rs k w) := by
  rcases (by omega : k = 1 ∨ k = 2 ∨ k = 3 ∨ k = 4 ∨ k = 5 ∨ k = 6 ∨ k = 7 ∨ k = 8 ∨ k = 9 ∨ k = 10) with rfl | rfl | rfl | rfl | rfl | rfl | rfl | rfl | rfl | rfl
  · exact make_1 a len cap c base ad rs capd w hl hrs hrow hcb hbw hc
  · exact make_2 a len cap c base ad rs capd w hl hrs h0 hk0 hrow hcb hbw hc
  · exact make_3 a len cap c base ad rs capd w hl hrs hrow hcb hbw hc
  · exact make_4 a len cap c base ad rs capd w hl hrs h0 hk0 hrow hcb hbw hc
  · exact make_5 a len cap c base ad rs capd w hl hrs h0 hk0 hrow hcb hbw hc
  · exact make_6 a len cap c base ad rs capd w hl hrs h0 hk0 hrow hcb hbw hc
  · exact make_7 a len cap c base ad rs capd w hl hrs h0 hk0 hint hrow hcb hbw hc
  · exact make_8 a len cap c base ad rs capd w hl hrs h0 hk0 hrow hcb hbw hc
  · exact make_9 a len cap c base ad rs capd w hl hrs h0 hk0 hrow hcb hbw hc
  · exact make_10 a len cap c base ad rs capd w hl hrs h0 hk0 hrow hcb hbw hc
/-- Every rule was drawn behind the rules ahead of it. -/
def MadeAll (rs : List RuleV) : Prop := ∀ j (h : j < rs.length), MadeR (rs.take j) rs[j]
theorem MadeAll.nil : MadeAll [] := fun j h => by simp at h
theorem MadeAll.push {rs : List RuleV} {r : RuleV} (h : MadeAll rs) (hr : MadeR rs r) : MadeAll (rs ++ [r]) := fun j hj => by
  by_cases e : j < rs.length
  · rw [List.getElem_append_left e, List.take_append_of_le_length (by omega)]
    exact h j e
  · simp at hj
    obtain rfl : j = rs.length := by omega
    rw [List.getElem_append_right (Nat.le_refl _), List.take_append_of_le_length (Nat.le_refl _), List.take_length]
    simpa using hr
theorem MadeAll.int {rs : List RuleV} (h : MadeAll rs) : ∀ r ∈ rs, r.kind = 1 → 1 ≤ r.size ∧ r.size ≤ 4 := fun r hr hk => by
  obtain ⟨j, hj, rfl⟩ := List.getElem_of_mem hr
  exact kindI_size (h j hj).2.2 hk
theorem RowR.more {base base' : Nat} {v : Value} {rs : List RuleV} {w : World} (h : RowR base v rs w) (hb : base' ≤ base) : RowR base' v rs w := by
  obtain ⟨css, hl, ho, hr⟩ := h
  refine ⟨css, hl, ⟨ho.1, ?_⟩, fun j h1 h2 => ⟨(hr j h1 h2).1, (hr j h1 h2).2.1, fun b hbb => ⟨Nat.le_trans hb ((hr j h1 h2).2.2 b hbb).1, ((hr j h1 h2).2.2 b hbb).2⟩⟩⟩
  rcases ho.2 with h | ⟨g, cap, cur, e, hg, rest⟩
  · exact .inl h
  · exact .inr ⟨g, cap, cur, e, Nat.le_trans hb hg, rest⟩
/-- The state of a drawn description between two rules. -/
def DescrSt (a : Option Addr) (len cap c : Nat) (rs : List RuleV) (v : Value) (w W : World) : Prop :=
  MadeAll rs ∧ CellsAt w.heap.size [.slice none 0 0] W ∧ CellsAt (w.heap.size + 1) [v] W ∧ RowR (w.heap.size + 2) v rs W ∧ Cur a len cap c W ∧ w.grownBy W (some c) ∧ w.heap.size + 2 ≤ W.heap.size
theorem DescrSt.push {a : Option Addr} {len cap c : Nat} {rs : List RuleV} {r : RuleV} {v v' : Value} {w w6 w7 : World} (hcw : c < w.heap.size) (hold : ∀ b off, a = some ⟨b, off, none⟩ → 0 < len → b < w.heap.size)
    (hm : MadeAll rs) (hr : MadeR rs r) (hX : CellsAt w.heap.size [.slice none 0 0] w6) (hD : CellsAt (w.heap.size + 1) [v] w6) (hR : RowR (w.heap.size + 2) v rs w6) (hC : Cur a len cap c w6) (hG : w.grownBy w6 (some c)) (hBW : w.heap.size + 2 ≤ w6.heap.size)
    (hrow : RowR (w.heap.size + 2) v' (rs ++ [r]) w7) (hg : w6.grownBy w7 v.ownBlock) :
    DescrSt a len cap c (rs ++ [r]) v' w (w7.setCell ⟨w.heap.size + 1, 0, none⟩ v') := by
  have hlt : ∀ k, v.ownBlock = some k → w.heap.size + 2 ≤ k := fun k e => (hR.own k e).1
  have hX7 := hX.grown hg (by intro e; have := hlt _ e.symm; omega)
  have hD7 := (hD.grown hg (by intro e; have := hlt _ e.symm; omega)).set 0 v' (by simp)
  have hC7 := hC.grown hg (by intro e; have := hlt _ e.symm; omega) (fun b off ha hl => by intro e; have := hlt _ e.symm; have := hold b off ha hl; omega)
  simp only [List.set] at hD7
  refine ⟨hm.push hr, hX7.far (by omega), hD7, hrow.grown (grown_set (grown_refl _ _) 0 _) (by omega), hC7.put (by omega) (fun b off ha hl => by have := hold b off ha hl; omega), grown_put (grown_far hG hg (fun k e => by have := hlt _ e; omega)) (by omega), ?_⟩
  have := hg.size
  simp
  omega
/-- A drawn description comes back. -/
def DescrMade (a : Option Addr) (len cap c : Nat) (w : World) (e : Ending) (w' : World) : Prop :=
  ∃ (rs : List RuleV) (x : Option Addr) (cp : Nat), e = .returned (.agg #[.slice x rs.length cp]) ∧ MadeAll rs ∧ (1 ≤ rs.length ∧ rs.length ≤ 6) ∧ (∀ h : 0 < rs.length, rs[0].kind = 1) ∧ RowR (w.heap.size + 2) (.slice x rs.length cp) rs w' ∧ Cur a len cap c w' ∧ w.grownBy w' (some c)
set_option maxRecDepth 100000 in
set_option maxHeartbeats 4000000 in
theorem descr_draw (a : Option Addr) (len cap c : Nat) (w : World) (hl : len ≤ 140737488355328) (hc : Cur a len cap c w) :
    Calls Try.prog 39 #[.pointer (some ⟨c, 0, none⟩)] w (DescrMade a len cap c w) := by
  have hcw : c < w.heap.size := hc.lt
  have hold := Lib.hid hc.old
  obtain ⟨w0, hw0⟩ : ∃ w0, w0 = (w.alloc (.cells #[.slice none 0 0] 26)).alloc (.cells #[.slice none 0 0] 26) := ⟨_, rfl⟩
  have hB : Below w.heap.size w w0 := by subst hw0; exact ((Below.refl _ _).alloc (Nat.le_refl _) _).alloc (by simp) _
  have hX : CellsAt w.heap.size [.slice none 0 0] w0 := by subst hw0; exact (CellsAt.new w _ _).below ((Below.refl _ _).alloc (Nat.le_refl _) _)
  have hD : CellsAt (w.heap.size + 1) [.slice none 0 0] w0 := by
    subst hw0
    have h1 := CellsAt.new (w.alloc (.cells #[.slice none 0 0] 26)) [.slice none 0 0] 26
    simpa using h1
  have hs0 : w.heap.size + 2 ≤ w0.heap.size := by subst hw0; simp
  have bo : w0.cell? ⟨w.heap.size + 1, 0, none⟩ = some (.slice none 0 0) := (hD 0 _ rfl).1
  have hbd : Below w0.heap.size w0 w0.drew := below_drewN (Below.refl _ _) 1
  have HX := Lib.hid (hX.below hbd)
  have HD := Lib.hid (hD.below hbd)
  have HC := Lib.hid ((hc.below hB).below hbd)
  have HG : Hid (w.grownBy w0.drew (some c)) := grown_below (grown_of hB) hbd
  have HR : Hid (RowR (w.heap.size + 2) (.slice none 0 0) [] w0.drew) := RowR.start _ _
  have HBW : Hid (w.heap.size + 2 ≤ w0.drew.heap.size) := hs0
  have hW := Lib.hid hw0
  clear hc hB hX hD hw0 hbd hs0
  go_enter Try.func39, Try.ntmps39
  go_upto_region 2 with fail
  rw [← hW.out]
  clear hW
  go_cut [] from 6 to 13 (fun W => ∃ (r : RuleV) (v : Value), Hid (DescrSt a len cap c [r] v w W) ∧ Hid (r.kind = 1))
  case first =>
    go_region_law (first | (go_simp; go_at_call 63; refine (make_1 a len cap c (w.heap.size + 2) none [] 0 w0.drew hl (by simp) HR.out (by omega) HBW.out HC.out).mono ?_; rintro e w6 ⟨r, cs, rfl, ⟨hmd, hkd⟩, hcp, hblk, hI, hc1, hg⟩; have HNE : Hid (∀ b ∈ cs.flatMap sliceBlk, w.heap.size + 2 ≤ b ∧ some b ≠ Value.ownBlock (.slice none 0 0)) := (fun b hb => by have h1 := hblk b hb; have h2 := HBW.out; exact ⟨by omega, fun e => by have := HR.out.own b e.symm; omega⟩); have HMD := Lib.hid hmd; have HKD := Lib.hid hkd; have HCP := Lib.hid hcp; have HI := Lib.hid hI; replace HX := Lib.hid (HX.out.grown hg (by intro e; injection e with e; omega)); replace HD := Lib.hid (HD.out.grown hg (by intro e; injection e with e; omega)); replace HR := Lib.hid (HR.out.grown hg (by omega)); replace HG := Lib.hid (Lib.grownBy_trans HG.out hg); replace HBW := Lib.hid (Nat.le_trans HBW.out hg.size); replace HC := Lib.hid hc1; have bo6 := (HD.out 0 _ rfl).1; clear hmd hkd hcp hblk hc1 hg; obtain ⟨x4, y4, x5, y5, x6, y6, x7, y7, rfl, -⟩ := hI; have bo7 := (HD.out.below ((Below.refl w6.heap.size w6).alloc (Nat.le_refl _) (.cells #[.string r.name, .int .i64 r.kind, .int .i64 r.size, .bool r.little, .slice x4 r.bytes.length y4, .slice x5 r.names.length y5, .slice x6 r.tags.length y6, .slice x7 r.kids.length y7] 38)) 0 _ rfl).1) | (refine step_pushR rfl (.tmp 7) (.tmp 11) rfl (w.heap.size + 2) (.slice none 0 0) [] r _ w6 (by simp [Act.eval]) (by simp [Act.eval]) HR.out HI.out HCP.out HNE.out (by simp) HBW.out ?_; intro v' w7 hrow hg; have HR7 := Lib.hid hrow; have HG7 := Lib.hid hg; obtain ⟨bo8, bf8⟩ := HD.out.grown hg (by intro e; have := (HR.out.own _ e.symm).1; omega) 0 _ rfl; obtain ⟨x', c', rfl, -⟩ := hrow.rdc; clear hrow hg))
    all_goals (go_wp2_with fail; go_meet; exact ⟨r, _, DescrSt.push hcw hold.out MadeAll.nil HMD.out HX.out HD.out HR.out HC.out HG.out HBW.out HR7.out HG7.out, HKD⟩)
  case rest =>
    clear HX HD HC HG HR HBW bo
    obtain ⟨r0, v0, hst, hk0⟩ := hcut
    obtain ⟨hm, hX, hD, hR, hC, hG, hBW⟩ := hst.out
    clear hst
    go_wp2_with fail
    refine (below_draw a len cap c 6 _ hl (by omega) (by omega) hC).mono ?_
    rintro e w5 ⟨x, ⟨x0, x1⟩, rfl, hc1, hg⟩
    have hst : Hid (DescrSt a len cap c [r0] v0 w w5) := ⟨hm, hX.grown hg (by intro e; injection e with e; omega), hD.grown hg (by intro e; injection e with e; omega), hR.grown hg (by omega), hc1, Lib.grownBy_trans hG hg, Nat.le_trans hBW hg.size⟩
    clear hm hX hD hR hC hG hBW hc1 hg
    obtain ⟨m, rfl⟩ : ∃ m : Nat, x = (m : Int) := ⟨x.toNat, by omega⟩
    have m5 : m ≤ 5 := by omega
    have hkk : Hid (∀ h : 0 < [r0].length, [r0][0].kind = 1) := fun _ => hk0.out
    go_wp2
    go_loopw [4] (fun i W => ∃ (j : Nat) (rs : List RuleV) (v : Value), j ≤ 5 ∧ i = .int .i64 j ∧ rs.length + j ≤ 6 ∧ 1 ≤ rs.length ∧ Hid (∀ h : 0 < rs.length, rs[0].kind = 1) ∧ Hid (DescrSt a len cap c rs v w W)) (fun i _ => (intOf i).toNat)
    case atStart => exact ⟨m, [r0], v0, m5, rfl, by simp; omega, by simp, hkk, hst⟩
    case round =>
      clear hst hkk hk0 x0 x1 m5
      obtain ⟨j, rs, v, hj, rfl, hlen, hlen1, hk, hst⟩ := hrel
      obtain ⟨hm, hX, hD, hR, hC, hG, hBW⟩ := hst.out
      clear hst
      obtain ⟨ad, capd, rfl, -⟩ := hR.rdc
      have HM := Lib.hid hm
      by_cases hj0 : j = 0
      case pos =>
        subst hj0
        obtain ⟨z0, t0⟩ := hX 0 _ rfl
        obtain ⟨d0, -⟩ := hD 0 _ rfl
        have HRF := Lib.hid (hR.grown (grown_set (grown_refl wr w.heap.size) 0 (.slice ad rs.length capd)) (by omega))
        have HCF := Lib.hid (hC.put (q := w.heap.size) (i := 0) (v := .slice ad rs.length capd) (by omega) (fun b off ha hl => by have := hold.out b off ha hl; omega))
        have HGF := Lib.hid (grown_put (q := w.heap.size) (i := 0) (v := .slice ad rs.length capd) hG (Nat.le_refl _))
        clear hX hD hR hC hG hBW hm
        go_wp2
        (try simp only [Exit.inBlock, Exit.then])
        refine bodyPost_ret (v := .agg #[.slice ad rs.length capd]) ?_ rfl ?_
        · simp [results, Try.results39, go_sem, z0]
        · exact ⟨rs, ad, capd, rfl, HM.out, ⟨hlen1, by omega⟩, hk.out, HRF.out, HCF.out, HGF.out⟩
      have j1 : (0 : Int) < (j : Int) := by omega
      have bo : wr.cell? ⟨w.heap.size + 1, 0, none⟩ = some (.slice ad rs.length capd) := (hD 0 _ rfl).1
      have hbd : Below wr.heap.size wr wr.drew := below_drewN (Below.refl _ _) 1
      have HX := Lib.hid (hX.below hbd)
      have HD := Lib.hid (hD.below hbd)
      have HC := Lib.hid (hC.below hbd)
      have HG := Lib.hid (grown_below hG hbd)
      have HR := Lib.hid (hR.below hbd)
      have HBW : Hid (w.heap.size + 2 ≤ wr.drew.heap.size) := hBW
      have hrs9 : rs.length ≤ 9 := by omega
      clear hbd hX hD hR hC hG hBW hm
      go_upto_region 6 with fail
      go_region_law (first | (go_simp; go_at_call 64; refine (below_draw a len cap c 10 wr.drew hl (by omega) (by omega) HC.out).mono ?_; rintro e w5 ⟨y, ⟨y0, y1⟩, rfl, hc1, hg⟩; have hw : IntKind.i64.wrap (1 + y) = 1 + y := IntWalk.i64_in _ (by omega); replace HX := Lib.hid (HX.out.grown hg (by intro e; injection e with e; omega)); replace HD := Lib.hid (HD.out.grown hg (by intro e; injection e with e; omega)); replace HR := Lib.hid (HR.out.grown hg (by omega)); replace HG := Lib.hid (Lib.grownBy_trans HG.out hg); replace HBW := Lib.hid (Nat.le_trans HBW.out hg.size); replace HC := Lib.hid hc1; have bo5 := (HD.out 0 _ rfl).1; clear hc1 hg) | (go_simp; go_at_call 63; refine (make_any a len cap c (w.heap.size + 2) ad rs capd (1 + y) w5 hl (by omega) hrs9 (by omega) (hk.out _) HM.out.int HR.out (by omega) HBW.out HC.out).mono ?_; rintro e w6 ⟨r, cs, rfl, ⟨hmd, hkd⟩, hcp, hblk, hI, hc1, hg⟩; have HNE : Hid (∀ b ∈ cs.flatMap sliceBlk, w.heap.size + 2 ≤ b ∧ some b ≠ Value.ownBlock (.slice ad rs.length capd)) := (fun b hb => by have h1 := hblk b hb; have h2 := HBW.out; exact ⟨by omega, fun e => by have := HR.out.own b e.symm; omega⟩); have HMD := Lib.hid hmd; have HKD := Lib.hid hkd; have HCP := Lib.hid hcp; have HI := Lib.hid hI; replace HX := Lib.hid (HX.out.grown hg (by intro e; injection e with e; omega)); replace HD := Lib.hid (HD.out.grown hg (by intro e; injection e with e; omega)); replace HR := Lib.hid (HR.out.grown hg (by omega)); replace HG := Lib.hid (Lib.grownBy_trans HG.out hg); replace HBW := Lib.hid (Nat.le_trans HBW.out hg.size); replace HC := Lib.hid hc1; have bo6 := (HD.out 0 _ rfl).1; clear hmd hkd hcp hblk hc1 hg; obtain ⟨x4, y4, x5, y5, x6, y6, x7, y7, rfl, -⟩ := hI; have bo7 := (HD.out.below ((Below.refl w6.heap.size w6).alloc (Nat.le_refl _) (.cells #[.string r.name, .int .i64 r.kind, .int .i64 r.size, .bool r.little, .slice x4 r.bytes.length y4, .slice x5 r.names.length y5, .slice x6 r.tags.length y6, .slice x7 r.kids.length y7] 38)) 0 _ rfl).1) | (refine step_pushR rfl (.tmp 21) (.tmp 28) rfl (w.heap.size + 2) (.slice ad rs.length capd) rs r _ w6 (by simp [Act.eval]) (by simp [Act.eval]) HR.out HI.out HCP.out HNE.out (by omega) HBW.out ?_; intro v' w7 hrow hg; have HR7 := Lib.hid hrow; have HG7 := Lib.hid hg; obtain ⟨bo8, bf8⟩ := HD.out.grown hg (by intro e; have := (HR.out.own _ e.symm).1; omega) 0 _ rfl; obtain ⟨x', c', rfl, -⟩ := hrow.rdc; clear hrow hg))
      all_goals (have hfin := Lib.hid (DescrSt.push hcw hold.out HM.out HMD.out HX.out HD.out HR.out HC.out HG.out HBW.out HR7.out HG7.out); rw [show (rs ++ [r]).length = rs.length + 1 from by simp] at hfin; have hkf : Hid (∀ h : 0 < (rs ++ [r]).length, (rs ++ [r])[0].kind = 1) := (fun _ => by rw [List.getElem_append_left (by omega)]; exact hk.out _); clear HMD HKD HX HD HR HC HG HBW HR7 HG7 HI HCP HNE)
      all_goals go_wp2
      all_goals go_roundw
      all_goals first | exact ⟨j - 1, rs ++ [r], _, by omega, by congr 1; omega, by simp; omega, by simp, hkf, hfin⟩ | exact ⟨j - 1, rs ++ [r], _, by omega, by rw [show ((j : Int) - 1) = ((j - 1 : Nat) : Int) from by omega], by simp; omega, by simp, hkf, hfin⟩ | (simp [intOf]; omega)
end Go.Proofs.Ytnhijffemogpgaa
namespace Go.Proofs.Ytnhijffemogpgaa
open Go Go.RowKit
theorem kindAt_more {rs : List RuleV} {i : Nat} {k : Int} (hi : i ≤ rs.length) (h0 : 0 ≤ k) (h1 : k < (i : Int)) : kindAtB (rs.take i) k = kindAtB rs k := by
  unfold kindAtB
  rw [dif_pos (by rw [List.length_take]; omega), dif_pos (by omega)]
  rw [List.getElem_take]
theorem limitAt_more {rs : List RuleV} {i : Nat} {k : Int} (hi : i ≤ rs.length) (h0 : 0 ≤ k) (h1 : k < (i : Int)) : limitAt (rs.take i) k = limitAt rs k := by
  unfold limitAt
  rw [dif_pos (by rw [List.length_take]; omega), dif_pos (by omega)]
  simp only [List.getElem_take]
theorem kindI_more {rs : List RuleV} {r : RuleV} {i : Nat} (hi : i ≤ rs.length) (hk : kidsB r.kids (i : Int) = true) (h : kindI (rs.take i) r = true) : kindI rs r = true := by
  obtain ⟨nm, kd, sz, lt, bs, ns, ts, ks⟩ := r
  dsimp only at hk
  cases ks with
  | nil =>
    unfold kindI at h ⊢
    rw [Bool.and_eq_true] at h ⊢
    refine ⟨?_, h.2⟩
    have h1 := h.1
    unfold meetsB tagsB at h1 ⊢
    simpa using h1
  | cons k ks =>
    unfold kidsB at hk
    rw [List.all_eq_true] at hk
    have hk1 := of_decide_eq_true (hk k (by simp))
    have e1 := kindAt_more hi hk1.1 (by omega : k < (i : Int))
    have e2 := limitAt_more hi hk1.1 (by omega : k < (i : Int))
    unfold kindI at h ⊢
    unfold meetsB tagsB at h ⊢
    simp only [List.headD_cons, e1, e2] at h ⊢
    exact h
theorem find_at {rs : List RuleV} {i : Nat} (hi : i < rs.length) (hne : ∀ j (hj : j < i), rs[j].name ≠ rs[i].name) : findFrom rs[i].name rs 0 = (i : Int) := by
  have hall : ∀ d k, k + d = i → findFrom rs[i].name (rs.drop k) k = (i : Int) := by
    intro d
    induction d with
    | zero =>
      intro k e
      obtain rfl : k = i := by omega
      exact findFrom_yes hi rfl
    | succ d ih =>
      intro k e
      rw [findFrom_no (by omega) (hne k (by omega))]
      exact ih (k + 1) (by omega)
  have := hall i 0 (by omega)
  simpa using this
theorem MadeAll.take {rs : List RuleV} (h : MadeAll rs) (n : Nat) : MadeAll (rs.take n) := fun j hj => by
  have hj2 : j < n ∧ j < rs.length := by rw [List.length_take] at hj; omega
  rw [List.getElem_take, List.take_take, Nat.min_eq_left (by omega)]
  exact h j hj2.2
theorem made_valid {rs : List RuleV} (h : MadeAll rs) (hl : rs.length ≤ 9) : allV (kindI rs) rs := fun i hi => by
  have hl2 : ∀ j, j < rs.length → (rs.take j).length = j := fun j hj => by rw [List.length_take]; omega
  obtain ⟨⟨s, hs, hn⟩, hk, hv⟩ := h i hi
  rw [hl2 i hi] at hn hk
  rw [validAt_in hi]
  simp only [Bool.and_eq_true]
  refine ⟨decide_eq_true (find_at hi fun j hj => ?_), hk, ?_, kindI_more (by omega) hk hv⟩
  · obtain ⟨⟨t, ht, hn2⟩, -, -⟩ := h j (by omega)
    rw [hl2 j (by omega)] at hn2
    rw [hn, hn2]
    exact made_ne (List.mem_append_left _ ht) (List.mem_append_left _ hs) (by omega) (by omega) (by omega)
  · rw [hn]
    exact name_made (List.mem_append_left _ hs) (by omega)
theorem made_descr {rs : List RuleV} (h : MadeAll rs) (h1 : 1 ≤ rs.length) (hl : rs.length ≤ 9) : descrB (kindI rs) rs = true := descrB_yes ⟨h1, by omega⟩ (made_valid h hl)
open Classical in
theorem kindI_lens {rs : List RuleV} {r : RuleV} (h : kindI rs r = true) : Short r := by
  unfold kindI at h
  rw [Bool.and_eq_true] at h
  have hsame : r = onlyR r := (sameR_iff _ _).1 h.2
  have h1 := h.1
  unfold Short
  rcases kind_cases r.kind with hk | hk | hk | hk | hk | hk | hk | hk | hk | hk | hk
  · have e : onlyR r = ⟨r.name, r.kind, r.size, r.little, [], [], [], []⟩ := by unfold onlyR; simp [hk]
    rw [e] at hsame
    rw [hsame]; simp
  · have e : onlyR r = ⟨r.name, r.kind, 0, false, r.bytes, [], [], []⟩ := by unfold onlyR; simp [hk]
    rw [e] at hsame
    have h2 : r.bytes.length ≤ 16 := by simp [meetsB, hk] at h1; omega
    rw [hsame]; simp; omega
  · have e : onlyR r = ⟨r.name, r.kind, r.size, false, [], [], [], []⟩ := by unfold onlyR; simp [hk]
    rw [e] at hsame
    rw [hsame]; simp
  · have e : onlyR r = ⟨r.name, r.kind, 0, false, [], [], [], r.kids⟩ := by unfold onlyR; simp [hk]
    rw [e] at hsame
    have h2 : r.kids.length ≤ 2 := by simp [meetsB, hk] at h1; omega
    rw [hsame]; simp; omega
  · have e : onlyR r = ⟨r.name, r.kind, 0, false, [], [], [], r.kids⟩ := by unfold onlyR; simp [hk]
    rw [e] at hsame
    have h2 : r.kids.length ≤ 2 := by simp [meetsB, hk] at h1; omega
    rw [hsame]; simp; omega
  · have e : onlyR r = ⟨r.name, r.kind, 0, false, [], r.names, [], r.kids⟩ := by unfold onlyR; simp [hk]
    rw [e] at hsame
    have h2 : r.names.length = r.kids.length ∧ namesB r.names = true := by simpa [meetsB, hk] using h1
    have h3 : r.names.length ≤ 8 := by
      have h4 := h2.2
      unfold namesB at h4
      exact (of_decide_eq_true h4).2.2
    rw [hsame]; simp; omega
  · have e : onlyR r = ⟨r.name, r.kind, 0, false, [], [], r.tags, r.kids⟩ := by unfold onlyR; simp [hk]
    rw [e] at hsame
    have h2 : tagsB rs r = true := by simpa [meetsB, hk] using h1
    unfold tagsB at h2
    rw [Bool.and_eq_true] at h2
    have h3 := of_decide_eq_true h2.1
    rw [hsame]; simp; omega
  · have e : onlyR r = ⟨r.name, r.kind, 0, false, [], [], [], r.kids⟩ := by unfold onlyR; simp [hk]
    rw [e] at hsame
    have h2 : r.kids.length = 1 := by simpa [meetsB, hk] using h1
    rw [hsame]; simp; omega
  · have e : onlyR r = ⟨r.name, r.kind, 0, false, [], [], [], r.kids⟩ := by unfold onlyR; simp [hk]
    rw [e] at hsame
    have h2 : r.kids.length = 1 := by simpa [meetsB, hk] using h1
    rw [hsame]; simp; omega
  · have e : onlyR r = ⟨r.name, r.kind, 0, false, r.bytes, [], [], []⟩ := by unfold onlyR; simp [hk]
    rw [e] at hsame
    have h2 : r.bytes.length = 1 := by simp [meetsB, hk, termB] at h1; exact h1.1
    rw [hsame]; simp; omega
  · obtain ⟨k1, k2, k3, k4, k5, k6, k7, k8, k9, k10⟩ := hk
    simp [meetsB, k1, k2, k3, k4, k5, k6, k7, k8, k9, k10] at h1
theorem made_short {rs : List RuleV} (h : MadeAll rs) : ∀ r ∈ rs, Short r := fun r hr => by
  obtain ⟨j, hj, rfl⟩ := List.getElem_of_mem hr
  exact kindI_lens (h j hj).2.2
theorem nameB_le {s : ByteArray} (h : nameB s = true) : s.size ≤ 12 := by
  by_cases hs : 1 ≤ s.size ∧ s.size ≤ 12
  · exact hs.2
  · rw [nameB_size hs] at h; cases h
open Classical in
theorem kindI_spelt {rs : List RuleV} {r : RuleV} (h : kindI rs r = true) : ∀ s ∈ r.names, s.size ≤ 12 := by
  unfold kindI at h
  rw [Bool.and_eq_true] at h
  have hsame : r = onlyR r := (sameR_iff _ _).1 h.2
  by_cases hk : r.kind = 6
  · have h2 : r.names.length = r.kids.length ∧ namesB r.names = true := by simpa [meetsB, hk] using h.1
    have h4 := h2.2
    unfold namesB at h4
    have h5 := of_decide_eq_true h4
    intro s hs
    obtain ⟨j, hj, rfl⟩ := List.getElem_of_mem hs
    exact nameB_le (h5.1 j hj hj).1
  · have e : r.names = [] := by
      rw [hsame]
      unfold onlyR
      split
      · rfl
      · split
        · rfl
        · split
          · rfl
          · split
            · rfl
            · split <;> rfl
    rw [e]
    intro s hs
    simp at hs
theorem made_spelt {rs : List RuleV} (h : MadeAll rs) (hl : rs.length ≤ 9) : ∀ r ∈ rs, Spelt r := fun r hr => by
  obtain ⟨j, hj, rfl⟩ := List.getElem_of_mem hr
  have h1 := made_valid h hl j hj
  rw [validAt_in hj] at h1
  simp only [Bool.and_eq_true] at h1
  exact ⟨by have := nameB_le h1.2.2.1; omega, fun s hs => by have := kindI_spelt (h j hj).2.2 s hs; omega⟩
/-- A drawn description comes back, in new memory. -/
def DrawnD (w : World) (e : Ending) (w' : World) : Prop :=
  ∃ (rs : List RuleV) (x : Option Addr) (cp : Nat), e = .returned (.agg #[.slice x rs.length cp]) ∧ MadeAll rs ∧ (1 ≤ rs.length ∧ rs.length ≤ 6) ∧ (∀ h : 0 < rs.length, rs[0].kind = 1) ∧ RowR w.heap.size (.slice x rs.length cp) rs w' ∧ Below w.heap.size w w'
set_option maxRecDepth 100000 in
theorem drawd (a : Option Addr) (len cap : Nat) (w : World) (hl : len ≤ 140737488355328) (hs : Code a len w) :
    Calls Try.prog 19 #[.slice a len cap] w (DrawnD w) := by
  obtain ⟨w0, hw0⟩ : ∃ w0, w0 = w.alloc (.cells #[.slice none 0 0] 26) := ⟨_, rfl⟩
  have hB : Below w.heap.size w w0 := by subst hw0; exact (Below.refl _ _).alloc (Nat.le_refl _) _
  have hX : CellsAt w.heap.size [.slice none 0 0] w0 := by subst hw0; exact CellsAt.new w _ _
  have hz : Hid (w0.heap.size = w.heap.size + 1) := by subst hw0; exact World.size_alloc _ _
  have HS := Lib.hid (hs.below hB)
  have HB := Lib.hid hB
  have HX := Lib.hid hX
  have hW := Lib.hid hw0
  clear hs hB hX hw0
  go_enter Try.func19, Try.ntmps19
  go_wp2_with fail
  rw [← hW.out]
  clear hW
  refine (new_draw a len cap _ hl HS.out).mono ?_
  rintro e w1 ⟨rfl, hc1, hb1, hz1⟩
  have HC1 := Lib.hid hc1
  have HB1 := Lib.hid (HB.out.trans (hb1.mono HB.out.size))
  have HX1 := Lib.hid (HX.out.below hb1)
  have hz2 : Hid (w1.heap.size = w.heap.size + 2) := by show _ = _; rw [hz1, hz.out]
  clear hc1 hb1 hz1 HX HB HS
  go_wp2_with fail
  refine (descr_draw a len cap w0.heap.size _ hl HC1.out).mono ?_
  rintro e w2 ⟨rs, x, cp, rfl, hm, hln, hk, hrow, hc2, hg2⟩
  have hcne : w.heap.size ≠ w0.heap.size := by have := hz.out; omega
  have HX2 := Lib.hid (HX1.out.grown hg2 (by intro e; injection e with e; omega))
  have HB2 := Lib.hid (HB1.out.grown hg2 HB1.out.size (fun k e => by injection e with e; have := hz.out; omega))
  obtain ⟨z0, t0⟩ := HX2.out 0 _ rfl
  have HM := Lib.hid hm
  have HK := Lib.hid hk
  have HR := Lib.hid ((hrow.grown (grown_set (grown_refl w2 w.heap.size) 0 (.slice x rs.length cp)) (by have := hz2.out; omega)).more (base' := w.heap.size) (by have := hz2.out; omega))
  have HL := Lib.hid hln
  have HBF := Lib.hid (HB2.out.setCell (p := ⟨w.heap.size, 0, none⟩) (Nat.le_refl _) (.slice x rs.length cp))
  clear hm hk hrow hc2 hg2 hln HX1 HB1 HX2 HB2 HC1 hcne
  go_wp2
  (try simp only [Exit.inBlock, Exit.then])
  refine bodyPost_ret (v := .agg #[.slice x rs.length cp]) ?_ rfl ?_
  · simp [results, Try.results19, go_sem, z0]
  · exact ⟨rs, x, cp, rfl, HM.out, HL.out, HK.out, HR.out, HBF.out⟩
end Go.Proofs.Ytnhijffemogpgaa
