/- Drawing rules: an earlier rule that is an integer (l4Integer). Drawing rules: one more rule (l4Make): what is promised. A drawn sequence between two parts. The names of drawn rules and of drawn parts are names, and differ. No program is walked here. A drawn choice between two alternatives. -/
import Derived.Test.YtefkhknfjohnaaaGBase
import Derived.Test.YtefkhknfjohnaaaGPu
import Derived.Test.YtefkhknfjohnaaaOwnedR
import Derived.Test.YtefkhknfjohnaaaFmt2
import Derived.Deep.CutRange
namespace Go.Proofs.Ytefkhknfjohnaaa
open Go Go.RowKit
theorem int_drawC (a : Option Addr) (len cap c g capz : Nat) (zs : List Int) (w : World) (hl : len ≤ 140737488355328) (h1 : 1 ≤ zs.length) (h2 : zs.length ≤ 100000) (hc : Cur a len cap c w) (hg : g ≠ c)
    (hz : ∀ j, j < zs.length → w.cell? ⟨g, j, none⟩ = some (.int .i64 (zs.getD j 0))) :
    Calls Try.prog 56 #[.pointer (some ⟨c, 0, none⟩), .slice (some ⟨g, 0, none⟩) zs.length capz] w (DrawOut (fun x => x ∈ zs) a len cap c w) := by
  have HC := Lib.hid hc
  have HZ := Lib.hid hz
  clear hc hz
  go_enter Try.func56, Try.ntmps56
  go_wp2_with fail
  refine (below_draw a len cap c (zs.length : Int) _ hl (by omega) (by omega) HC.out).mono ?_
  rintro e w1 ⟨x, ⟨x0, x1⟩, rfl, hc1, hg1⟩
  have HC1 := Lib.hid hc1
  have HG1 := Lib.hid hg1
  clear hc1 hg1
  obtain ⟨k, rfl⟩ : ∃ k : Nat, x = (k : Int) := ⟨x.toNat, by omega⟩
  have hk : k < zs.length := by omega
  have hcell : w1.cell? ⟨g, k, none⟩ = some (.int .i64 (zs.getD k 0)) := HG1.out.cell (HZ.out k hk) (by simpa using hg)
  go_wp2_with fail
  go_ret
  refine ⟨_, ?_, rfl, HC1.out, HG1.out⟩
  simp
/-- x is the index of an integer. -/
def IntAt (rs : List RuleV) (x : Int) : Prop := ∃ (n : Nat) (h : n < rs.length), x = (n : Int) ∧ rs[n].kind = 1
theorem grown_of {w w' : World} {c : Nat} (h : Below w.heap.size w w') : w.grownBy w' (some c) := ⟨h.os, h.tape, h.output, h.size, fun k hk _ => h.block k hk⟩
set_option maxRecDepth 100000 in
set_option maxHeartbeats 1000000 in
theorem integer_draw (a : Option Addr) (len cap c : Nat) (ad : Option Addr) (rs : List RuleV) (capd : Nat) (w : World) (hl : len ≤ 140737488355328) (hrs : rs.length ≤ 1000) (h0 : 0 < rs.length) (hk0 : rs[0].kind = 1) (hrd : RdR ad rs w) (hc : Cur a len cap c w) :
    Calls Try.prog 95 #[.pointer (some ⟨c, 0, none⟩), .agg #[.slice ad rs.length capd]] w (DrawOut (IntAt rs) a len cap c w) := by
  obtain ⟨w0, hw0⟩ : ∃ w0, w0 = w.alloc (.cells #[.slice ad rs.length capd] 38) := ⟨_, rfl⟩
  have hB0 : Below w.heap.size w w0 := by subst hw0; exact (Below.refl _ _).alloc (Nat.le_refl _) _
  have hX0 : CellsAt w.heap.size [.slice ad rs.length capd] w0 := by subst hw0; exact CellsAt.new w _ _
  have HB0 := Lib.hid hB0
  have HX0 := Lib.hid hX0
  have HR := Lib.hid (hrd.below hB0)
  have HC := Lib.hid hc
  have hclt := hc.lt
  have hs0 : Hid (w0.heap.size = w.heap.size + 1) := by subst hw0; exact World.size_alloc _ _
  have hW := Lib.hid hw0
  have HK0 := Lib.hid hk0
  clear hrd hc hB0 hX0 hw0 hk0
  go_enter Try.func95, Try.ntmps95
  go_wp2
  rw [← hW.out]
  go_loopw [5, 6] (fun v i W => ∃ (k : Nat) (zs : List Int) (v0 : Value), k ≤ rs.length ∧ i = .int .i64 k ∧ v0 = v ∧ Hid (W.ownsRow w0.heap.size 3 1 v0 zs.length (zs.map (Value.int .i64))) ∧ Hid (∀ x ∈ zs, IntAt rs x) ∧ Hid (0 < k → zs ≠ []) ∧ zs.length ≤ k ∧ Hid (Below w0.heap.size w0 W)) (fun _ i _ => rs.length - (intOf i).toNat)
  case atStart =>
    refine ⟨0, [], _, Nat.zero_le _, rfl, rfl, ?_, fun x hx => by simp at hx, fun h => by omega, Nat.le_refl _, (Below.refl _ _).alloc (Nat.le_refl _) _⟩
    have hz : w0.heap.size = w.heap.size + 1 := hs0.out
    rw [← hz]
    exact World.ownsRow_made w0 #[] 0 (Nat.le_refl _) (Nat.zero_le _) rfl
  case round =>
    obtain ⟨k, zs, v0, hk, rfl, rfl, ho, hin, hne, hlen, hbw⟩ := hrel
    have k0 : (0 : Int) ≤ (k : Int) := by omega
    have bx := (HX0.out.below hbw.out 0 _ rfl).1
    by_cases hlt : k < rs.length
    · have k1 : (k : Int) < (rs.length : Int) := by omega
      obtain ⟨b, off, _, _, _, _, _, _, _, _, rfl, ⟨-, d1, -⟩, -⟩ := (HR.out.below hbw.out).at k hlt
      by_cases hkd : rs[k].kind = 1
      · have hin2 : Hid (∀ x ∈ zs ++ [(k : Int)], IntAt rs x) := fun x hx => by
          rcases List.mem_append.1 hx with hx | hx
          · exact hin.out x hx
          · simp at hx
            exact ⟨k, hlt, hx, hkd⟩
        rw [hkd] at d1
        clear hkd
        go_wp2_with (at_builtin; refine wp_pushF 74 3 (.int .i64 0) 8 Try.underlying74 infoInt rfl rfl (.tmp 22) (.tmp 24) rfl w0.heap.size v0 zs (k : Int) rfl wr (by simp [Act.eval]) (by simp [Act.eval]) ho.out (by unfold maxLen; omega) (by omega) hbw.out.size ?_)
        intro v' w' hown hgrow _
        have ho2 : Hid (w'.ownsRow w0.heap.size 3 1 v' (zs ++ [(k : Int)]).length ((zs ++ [(k : Int)]).map (Value.int .i64))) := by show World.ownsRow _ _ _ _ _ _ _; simpa using hown
        have hb2 := Lib.hid (hbw.out.grown hgrow hbw.out.size fun g hg => (World.ownsRow.lt (w := wr) ho.out g hg).1)
        clear hown hgrow
        go_wp2
        go_roundw
        case rel => exact ⟨k + 1, zs ++ [(k : Int)], v', by omega, by go_num, rfl, ho2, hin2, fun _ => by simp, by simp; omega, hb2⟩
        case measure => simp [intOf]; omega
      · have g1 : (rs[k].kind == 1) = false := by simpa using hkd
        have hne2 : Hid (0 < k + 1 → zs ≠ []) := fun _ => by
          refine hne.out ?_
          rcases Nat.eq_zero_or_pos k with e | e
          · subst e; exact absurd HK0.out hkd
          · exact e
        generalize rs[k].kind = kd at d1 g1
        clear hkd
        go_wp2
        go_roundw
        case rel => exact ⟨k + 1, zs, v0, by omega, by go_num, rfl, ho, hin, hne2, by omega, hbw⟩
        case measure => simp [intOf]; omega
    · have k1 : ¬ (k : Int) < (rs.length : Int) := by omega
      have hz1 : 1 ≤ zs.length := by
        have := hne.out (by omega)
        cases zs with
        | nil => exact absurd rfl this
        | cons _ _ => simp
      have hBW : Below w.heap.size w wr := HB0.out.trans (hbw.out.mono HB0.out.size)
      have HCW := Lib.hid (HC.out.below hBW)
      have HGW : Hid (w.grownBy wr (some c)) := grown_of hBW
      have hoo := ho.out
      rcases hoo.2 with ⟨_, hn⟩ | ⟨g, capz, cur, rfl, hbg, _⟩
      · omega
      · have hcells : Hid (∀ q, q < zs.length → wr.cell? ⟨g, q, none⟩ = some (.int .i64 (zs.getD q 0))) := fun q hq => by
          rw [hoo.cellAt q (by omega)]
          simp [hq]
        have hgc : g ≠ c := by have := hs0.out; omega
        clear hoo hBW
        go_wp2_with fail
        refine (int_drawC a len cap c g capz zs _ hl hz1 (by omega) HCW.out hgc hcells.out).mono ?_
        rintro e w2 ⟨x, hx, rfl, hc2, hg2⟩
        have hx2 := Lib.hid (hin.out x hx)
        have HC2 := Lib.hid hc2
        have HG2 := Lib.hid (Lib.grownBy_trans HGW.out hg2)
        clear hx hc2 hg2
        go_wp2
        go_ret
        exact ⟨x, hx2.out, rfl, HC2.out, HG2.out⟩
theorem Cur.put {a : Option Addr} {len cap c q i : Nat} {v : Value} {w : World} (h : Cur a len cap c w) (hq : q ≠ c) (hs : ∀ b off, a = some ⟨b, off, none⟩ → 0 < len → b ≠ q) : Cur a len cap c (w.setCell ⟨q, i, none⟩ v) := by
  obtain ⟨k, x, hk, c0, c1, c2, f1, f2, hsrc⟩ := h
  have other : ∀ {p : Addr} {u : Value}, w.cell? p = some u → p.block ≠ q → (w.setCell ⟨q, i, none⟩ v).cell? p = some u := fun hp hne => (World.cell?_setCell_other _ _ _ _ (fun e => hne (by rw [← e]))).trans hp
  refine ⟨k, x, hk, other c0 (fun e => hq e.symm), other c1 (fun e => hq e.symm), other c2 (fun e => hq e.symm), by simpa using f1, by simpa using f2, fun j hj => ?_⟩
  obtain ⟨b, off, y, ha, hne, hy, hc⟩ := hsrc j hj
  exact ⟨b, off, y, ha, hne, hy, other hc (hs b off ha (by omega))⟩
theorem Cur.old {a : Option Addr} {len cap c : Nat} {w : World} (h : Cur a len cap c w) : ∀ b off, a = some ⟨b, off, none⟩ → 0 < len → b < w.heap.size := fun b off ha hl => by
  obtain ⟨k, x, hk, c0, c1, c2, f1, f2, hsrc⟩ := h
  obtain ⟨b', off', y, ha', hne, hy, hc⟩ := hsrc 0 hl
  rw [ha] at ha'
  injection ha' with ha'
  injection ha' with e
  subst e
  exact cell_lt hc
theorem grown_put {w w' : World} {c q i : Nat} {v : Value} (h : w.grownBy w' (some c)) (hq : w.heap.size ≤ q) : w.grownBy (w'.setCell ⟨q, i, none⟩ v) (some c) := by
  have hs := grown_set (grown_refl w' q) i v
  exact ⟨hs.os.trans h.os, hs.tape.trans h.tape, hs.output.trans h.output, Nat.le_trans h.size hs.size, fun k hk hne => (hs.block k (Nat.lt_of_lt_of_le hk h.size) (by intro e; injection e with e; omega)).trans (h.block k hk hne)⟩
theorem grown_below' {w w' w'' : World} {c : Nat} (h : w.grownBy w' (some c)) (hb : Below w'.heap.size w' w'') : w.grownBy w'' (some c) := grown_below h hb
end Go.Proofs.Ytefkhknfjohnaaa
namespace Go.Proofs.Ytefkhknfjohnaaa
open Go Go.RowKit
/-- How the names of drawn rules begin. -/
def bases : List ByteArray := [⟨#[97]⟩, ⟨#[105, 116, 101, 109]⟩, ⟨#[98]⟩, ⟨#[104, 101, 97, 100]⟩, ⟨#[120]⟩]
def digitS (n : Nat) : ByteArray := ⟨(Lib.itoa (n : Int)).toArray⟩
/-- A rule that is drawn behind these rules. -/
def MadeR (rs : List RuleV) (r : RuleV) : Prop := (∃ s ∈ bases, r.name = s ++ digitS rs.length) ∧ kidsB r.kids (rs.length : Int) = true ∧ kindI rs r = true
/-- What holds while a drawn rule comes back. -/
def MakeP (a : Option Addr) (len cap c : Nat) (r : RuleV) (cs : List Value) (w W : World) : Prop := OwnedR (w.heap.size + 2) r cs W ∧ Cur a len cap c W ∧ w.grownBy W (some c)
theorem MakeP.put {a : Option Addr} {len cap c : Nat} {r : RuleV} {cs : List Value} {w W : World} (_hb : ∀ b ∈ cs.flatMap sliceBlk, w.heap.size + 2 ≤ b) (hc : c < w.heap.size) (hs : ∀ b off, a = some ⟨b, off, none⟩ → 0 < len → b < w.heap.size) (i : Nat) (v : Value) (h : MakeP a len cap c r cs w W) : MakeP a len cap c r cs w (W.setCell ⟨w.heap.size + 1, i, none⟩ v) :=
  ⟨h.1.keep (grown_set (grown_refl W (w.heap.size + 1)) i v) (fun b hbb e => by injection e with e; have := (h.1.lt b hbb).1; omega), h.2.1.put (by omega) (fun b off ha hl => by have := hs b off ha hl; omega), grown_put h.2.2 (by omega)⟩
/-- A drawn rule comes back. -/
def MakeOut (a : Option Addr) (len cap c : Nat) (rs : List RuleV) (k : Int) (w : World) (e : Ending) (w' : World) : Prop :=
  ∃ (r : RuleV) (cs : List Value), e = .returned (.agg cs.toArray) ∧ (MadeR rs r ∧ r.kind = k) ∧ CapK cs ∧ (∀ b ∈ cs.flatMap sliceBlk, w.heap.size ≤ b) ∧ MakeP a len cap c r cs w w'
theorem RowR.at {base : Nat} {ad : Option Addr} {rs : List RuleV} {n capd : Nat} {w : World} (h : RowR base (.slice ad n capd) rs w) : RdC ad rs w := by
  obtain ⟨a', c', e, hrd, _⟩ := h.rdc
  injection e with e1 e2 e3
  subst e1
  exact hrd
theorem addS (W : World) (x y : ByteArray) (h : x.size + y.size ≤ 9223372036854775807) : (Op.stringOp .add x y).run Try.prog W = .ok (.string (x ++ y)) W := run_string_add_sum W x y (by omega)
theorem digit_one : ∀ n : Fin 10, (digitS n.val).size = 1 := by decide +kernel
theorem base_size {s : ByteArray} (h : s ∈ bases) : s.size ≤ 4 := by
  unfold bases at h
  simp only [List.mem_cons, List.not_mem_nil, or_false] at h
  rcases h with rfl | rfl | rfl | rfl | rfl <;> decide
theorem intAt_kind {rs : List RuleV} {x : Int} (h : IntAt rs x) : kindAtB rs x = true := by
  obtain ⟨n, hn, rfl, hk⟩ := h
  unfold kindAtB
  rw [dif_pos (by omega)]
  simpa using hk
theorem cells_empty (nm : ByteArray) (kd sz : Int) (lt : Bool) (w : World) : IsRule ⟨nm, kd, sz, lt, [], [], [], []⟩ [.string nm, .int .i64 kd, .int .i64 sz, .bool lt, .slice none 0 0, .slice none 0 0, .slice none 0 0, .slice none 0 0] w :=
  ⟨none, 0, none, 0, none, 0, none, 0, rfl, fun j hj => by simp at hj, fun j hj => by simp at hj, fun j hj => by simp at hj, fun j hj => by simp at hj⟩
end Go.Proofs.Ytefkhknfjohnaaa
namespace Go.Proofs.Ytefkhknfjohnaaa
open Go Go.RowKit
theorem Cur.grown {a : Option Addr} {len cap c : Nat} {w w' : World} {row : Option Nat} (h : Cur a len cap c w) (hg : w.grownBy w' row) (hc : some c ≠ row) (hs : ∀ b off, a = some ⟨b, off, none⟩ → 0 < len → some b ≠ row) : Cur a len cap c w' := by
  obtain ⟨k, x, hk, c0, c1, c2, f1, f2, hsrc⟩ := h
  have hb := hg.block c (cell_lt c0) hc
  refine ⟨k, x, hk, hg.cell c0 hc, hg.cell c1 hc, hg.cell c2 hc, (World.frozen?_of_block (a := ⟨c, 1, none⟩) hb).trans f1, (World.frozen?_of_block (a := ⟨c, 2, none⟩) hb).trans f2, fun j hj => ?_⟩
  obtain ⟨b, off, y, ha, hne, hy, hcc⟩ := hsrc j hj
  exact ⟨b, off, y, ha, hne, hy, hg.cell hcc (hs b off ha (by omega))⟩
theorem grown_far {w u v : World} {c : Nat} {row : Option Nat} (h : w.grownBy u (some c)) (g : u.grownBy v row) (hr : ∀ k, row = some k → w.heap.size ≤ k) : w.grownBy v (some c) :=
  ⟨g.os.trans h.os, g.tape.trans h.tape, g.output.trans h.output, Nat.le_trans h.size g.size, fun k hk hne => (g.block k (Nat.lt_of_lt_of_le hk h.size) (by intro e; have := hr k e.symm; omega)).trans (h.block k hk hne)⟩
/-- The names of a drawn sequence, from the last part on. -/
def SeqN (m j : Nat) (ns : List ByteArray) : Prop := ns.length + j = m ∧ ∀ t (h : t < ns.length), ∃ s ∈ ([⟨#[112]⟩, ⟨#[113]⟩, ⟨#[114]⟩] : List ByteArray), ns[t] = s ++ digitS (m - t)
/-- Indices of rules. -/
def KidsN (n : Nat) (ks : List Int) : Prop := ∀ x ∈ ks, 0 ≤ x ∧ x < (n : Int)
theorem pqr_size {s : ByteArray} (h : s ∈ ([⟨#[112]⟩, ⟨#[113]⟩, ⟨#[114]⟩] : List ByteArray)) : s.size = 1 := by
  simp only [List.mem_cons, List.not_mem_nil, or_false] at h
  rcases h with rfl | rfl | rfl <;> rfl
theorem SeqN.push {m j : Nat} {ns : List ByteArray} (h : SeqN m j ns) (hj : 0 < j) {y : ByteArray} (hy : y ∈ ([⟨#[112]⟩, ⟨#[113]⟩, ⟨#[114]⟩] : List ByteArray)) : SeqN m (j - 1) (ns ++ [y ++ digitS j]) := by
  obtain ⟨h1, h2⟩ := h
  refine ⟨by simp; omega, fun t ht => ?_⟩
  by_cases e : t < ns.length
  · rw [List.getElem_append_left e]; exact h2 t e
  · simp at ht
    obtain rfl : t = ns.length := by omega
    refine ⟨y, hy, ?_⟩
    rw [List.getElem_append_right (Nat.le_refl _)]
    simp only [Nat.sub_self, List.getElem_cons_zero]
    rw [show m - ns.length = j from by omega]
/-- The state of a drawn sequence between two parts. -/
def Seq6 (a : Option Addr) (len cap c : Nat) (ad : Option Addr) (rs : List RuleV) (capd : Nat) (nm : ByteArray) (N B m jn jk : Nat) (w W : World) : Prop :=
  ∃ (vN vK : Value) (ns : List ByteArray) (ks : List Int), SeqN m jn ns ∧ KidsN rs.length ks ∧ ks.length + jk = m ∧
    W.ownsRow B 9 1 vN ns.length (ns.map Value.string) ∧ W.ownsRow B 3 1 vK ks.length (ks.map (Value.int .i64)) ∧ (∀ g, vN.ownBlock = some g → vK.ownBlock ≠ some g) ∧
    CellsAt w.heap.size [.slice ad rs.length capd] W ∧ CellsAt (w.heap.size + 1) [.string ⟨#[]⟩, .int .i64 0, .int .i64 0, .bool false, .slice none 0 0, .slice none 0 0, .slice none 0 0, .slice none 0 0] W ∧ CellsAt N [.string nm, .int .i64 6, .int .i64 0, .bool false, .slice none 0 0, vN, .slice none 0 0, vK] W ∧ Cur a len cap c W ∧ w.grownBy W (some c) ∧ B ≤ W.heap.size
/-- One name more. -/
theorem Seq6.name {a : Option Addr} {len cap c : Nat} {ad : Option Addr} {rs : List RuleV} {capd : Nat} {nm : ByteArray} {N B m j jk : Nat} {w w6 w7 : World} {vN vK v' : Value} {ns : List ByteArray} {ks : List Int} {y ny : ByteArray} (hj : 0 < j)
    (hcw : c < w.heap.size) (hN : w.heap.size + 2 ≤ N) (hNB : N < B) (hold : ∀ b off, a = some ⟨b, off, none⟩ → 0 < len → b < w.heap.size)
    (hns : SeqN m j ns) (hks : KidsN rs.length ks) (hkl : ks.length + jk = m) (hoN : w6.ownsRow B 9 1 vN ns.length (ns.map Value.string)) (hoK : w6.ownsRow B 3 1 vK ks.length (ks.map (Value.int .i64))) (hdis : ∀ g, vN.ownBlock = some g → vK.ownBlock ≠ some g)
    (hX : CellsAt w.heap.size [.slice ad rs.length capd] w6) (hZ : CellsAt (w.heap.size + 1) [.string ⟨#[]⟩, .int .i64 0, .int .i64 0, .bool false, .slice none 0 0, .slice none 0 0, .slice none 0 0, .slice none 0 0] w6) (hO : CellsAt N [.string nm, .int .i64 6, .int .i64 0, .bool false, .slice none 0 0, vN, .slice none 0 0, vK] w6) (hC : Cur a len cap c w6) (hG : w.grownBy w6 (some c)) (hBW : B ≤ w6.heap.size)
    (hy : y ∈ ([⟨#[112]⟩, ⟨#[113]⟩, ⟨#[114]⟩] : List ByteArray)) (hny : ny = y ++ digitS j) (hv : w7.ownsRow B 9 1 v' (ns ++ [ny]).length ((ns ++ [ny]).map Value.string)) (hg : w6.grownBy w7 vN.ownBlock) (hb : v'.ownBlock = vN.ownBlock ∨ ∃ g, v'.ownBlock = some g ∧ w6.heap.size ≤ g) :
    Seq6 a len cap c ad rs capd nm N B m (j - 1) jk w (w7.setCell ⟨N, 5, none⟩ v') := by
  have hlt : ∀ k, vN.ownBlock = some k → B ≤ k := fun k e => (World.ownsRow.lt hoN k e).1
  have hltK : ∀ k, vK.ownBlock = some k → B ≤ k ∧ k < w6.heap.size := fun k e => World.ownsRow.lt hoK k e
  have hX7 := hX.grown hg (by intro e; have := hlt _ e.symm; omega)
  have hZ7 := hZ.grown hg (by intro e; have := hlt _ e.symm; omega)
  have hO7 := (hO.grown hg (by intro e; have := hlt _ e.symm; omega)).set 5 v' (by simp)
  have hC7 := hC.grown hg (by intro e; have := hlt _ e.symm; omega) (fun b off ha hl => by intro e; have := hlt _ e.symm; have := hold b off ha hl; omega)
  have hK7 := own_keep hoK hg (fun g e f => hdis g f e)
  have hg8 := grown_set (grown_refl w7 N) 5 v'
  simp only [List.set] at hO7
  refine ⟨v', vK, ns ++ [ny], ks, hny ▸ hns.push hj hy, hks, hkl, own_keep hv hg8 (fun g e f => ?_), own_keep hK7 hg8 (fun g e f => ?_), fun g e f => ?_, hX7.far (by omega), hZ7.far (by omega), hO7, hC7.put (by omega) (fun b off ha hl => by have := hold b off ha hl; omega), grown_put (grown_far hG hg (fun k e => by have := hlt _ e; omega)) (by omega), ?_⟩
  · have := (World.ownsRow.lt hv g e).1; injection f with f; omega
  · have := (hltK g e).1; injection f with f; omega
  · rcases hb with hb | ⟨q, hb, hq⟩
    · exact hdis g (hb ▸ e) f
    · rw [hb] at e; injection e with e; have := (hltK g f).2; omega
  · exact Nat.le_trans hBW (Nat.le_trans hg.size hg8.size)
/-- One kid more. -/
theorem Seq6.kid {a : Option Addr} {len cap c : Nat} {ad : Option Addr} {rs : List RuleV} {capd : Nat} {nm : ByteArray} {N B m jn j : Nat} {w w6 w7 : World} {vN vK v' : Value} {ns : List ByteArray} {ks : List Int} {x : Int} (hj : 0 < j)
    (hcw : c < w.heap.size) (hN : w.heap.size + 2 ≤ N) (hNB : N < B) (hold : ∀ b off, a = some ⟨b, off, none⟩ → 0 < len → b < w.heap.size)
    (hns : SeqN m jn ns) (hks : KidsN rs.length ks) (hkl : ks.length + j = m) (hoN : w6.ownsRow B 9 1 vN ns.length (ns.map Value.string)) (hoK : w6.ownsRow B 3 1 vK ks.length (ks.map (Value.int .i64))) (hdis : ∀ g, vN.ownBlock = some g → vK.ownBlock ≠ some g)
    (hX : CellsAt w.heap.size [.slice ad rs.length capd] w6) (hZ : CellsAt (w.heap.size + 1) [.string ⟨#[]⟩, .int .i64 0, .int .i64 0, .bool false, .slice none 0 0, .slice none 0 0, .slice none 0 0, .slice none 0 0] w6) (hO : CellsAt N [.string nm, .int .i64 6, .int .i64 0, .bool false, .slice none 0 0, vN, .slice none 0 0, vK] w6) (hC : Cur a len cap c w6) (hG : w.grownBy w6 (some c)) (hBW : B ≤ w6.heap.size)
    (hx : 0 ≤ x ∧ x < (rs.length : Int)) (hv : w7.ownsRow B 3 1 v' (ks ++ [x]).length ((ks ++ [x]).map (Value.int .i64))) (hg : w6.grownBy w7 vK.ownBlock) (hb : v'.ownBlock = vK.ownBlock ∨ ∃ g, v'.ownBlock = some g ∧ w6.heap.size ≤ g) :
    Seq6 a len cap c ad rs capd nm N B m jn (j - 1) w (w7.setCell ⟨N, 7, none⟩ v') := by
  have hlt : ∀ k, vK.ownBlock = some k → B ≤ k := fun k e => (World.ownsRow.lt hoK k e).1
  have hltN : ∀ k, vN.ownBlock = some k → B ≤ k ∧ k < w6.heap.size := fun k e => World.ownsRow.lt hoN k e
  have hX7 := hX.grown hg (by intro e; have := hlt _ e.symm; omega)
  have hZ7 := hZ.grown hg (by intro e; have := hlt _ e.symm; omega)
  have hO7 := (hO.grown hg (by intro e; have := hlt _ e.symm; omega)).set 7 v' (by simp)
  have hC7 := hC.grown hg (by intro e; have := hlt _ e.symm; omega) (fun b off ha hl => by intro e; have := hlt _ e.symm; have := hold b off ha hl; omega)
  have hN7 := own_keep hoN hg (fun g e f => hdis g e f)
  have hg8 := grown_set (grown_refl w7 N) 7 v'
  simp only [List.set] at hO7
  refine ⟨vN, v', ns, ks ++ [x], hns, fun y hy => ?_, by simp; omega, own_keep hN7 hg8 (fun g e f => ?_), own_keep hv hg8 (fun g e f => ?_), fun g e f => ?_, hX7.far (by omega), hZ7.far (by omega), hO7, hC7.put (by omega) (fun b off ha hl => by have := hold b off ha hl; omega), grown_put (grown_far hG hg (fun k e => by have := hlt _ e; omega)) (by omega), ?_⟩
  · rcases List.mem_append.1 hy with h | h
    · exact hks y h
    · rw [List.mem_singleton] at h; rw [h]; exact hx
  · have := (hltN g e).1; injection f with f; omega
  · have := (World.ownsRow.lt hv g e).1; injection f with f; omega
  · rcases hb with hb | ⟨q, hb, hq⟩
    · exact hdis g e (hb ▸ f)
    · rw [hb] at f; injection f with f; have := (hltN g e).2; omega
  · exact Nat.le_trans hBW (Nat.le_trans hg.size hg8.size)
end Go.Proofs.Ytefkhknfjohnaaa
namespace Go.Proofs.Ytefkhknfjohnaaa
open Go Go.RowKit
def pqr : List ByteArray := [⟨#[112]⟩, ⟨#[113]⟩, ⟨#[114]⟩]
theorem name_all : ∀ s ∈ bases ++ pqr, ∀ n : Fin 10, (∀ i : Fin (s ++ digitS n.val).size, nameAt (s ++ digitS n.val)[i.val] i.val) ∧ 1 ≤ (s ++ digitS n.val).size ∧ (s ++ digitS n.val).size ≤ 12 := by decide +kernel
theorem name_made {s : ByteArray} {n : Nat} (hs : s ∈ bases ++ pqr) (hn : n < 10) : nameB (s ++ digitS n) = true := by
  obtain ⟨h1, h2⟩ := name_all s hs ⟨n, hn⟩
  rw [nameB_end (fun i hi _ => h1 ⟨i, hi⟩)]
  exact decide_eq_true h2
theorem name_ne : ∀ s ∈ bases ++ pqr, ∀ t ∈ bases ++ pqr, ∀ n m : Fin 10, n ≠ m → s ++ digitS n.val ≠ t ++ digitS m.val := by decide +kernel
theorem made_ne {s t : ByteArray} {n m : Nat} (hs : s ∈ bases ++ pqr) (ht : t ∈ bases ++ pqr) (hn : n < 10) (hm : m < 10) (hne : n ≠ m) : s ++ digitS n ≠ t ++ digitS m := name_ne s hs t ht ⟨n, hn⟩ ⟨m, hm⟩ fun e => hne (by injection e)
theorem names_seq {m : Nat} {ns : List ByteArray} (h : SeqN m 0 ns) (h1 : 1 ≤ m) (h3 : m ≤ 3) : namesB ns = true := by
  obtain ⟨hl, hn⟩ := h
  have hl' : ns.length = m := by omega
  have hto : namesTo ns ns.length := fun i hi _ => by
    obtain ⟨s, hs, e⟩ := hn i hi
    refine ⟨?_, hasS_false fun hmem => ?_⟩
    · rw [e]; exact name_made (List.mem_append_right _ hs) (by omega)
    · obtain ⟨t, ht, e2⟩ := List.getElem_of_mem hmem
      rw [List.getElem_take] at e2
      have ht2 : t < i ∧ t < ns.length := by simp at ht; omega
      obtain ⟨s2, hs2, e3⟩ := hn t ht2.2
      rw [e3, e] at e2
      exact made_ne (List.mem_append_right _ hs2) (List.mem_append_right _ hs) (by omega) (by omega) (by omega) e2
  rw [namesB_end hto]
  exact decide_eq_true (by omega)
theorem kids_seq {n : Nat} {ks : List Int} (h : KidsN n ks) : kidsB ks (n : Int) = true := by
  unfold kidsB
  rw [List.all_eq_true]
  intro x hx
  have := h x hx
  exact decide_eq_true (by omega)
theorem kind6 {rs : List RuleV} {nm : ByteArray} {ns : List ByteArray} {ks : List Int} {m : Nat} (h : SeqN m 0 ns) (hk : ks.length + 0 = m) (h1 : 1 ≤ m) (h3 : m ≤ 3) : kindI rs ⟨nm, 6, 0, false, [], ns, [], ks⟩ = true := by
  have h2 := names_seq h h1 h3
  have h4 := h.1
  simp [kindI, meetsB, onlyR, sameR, h2]
  omega
theorem row_blk {α : Type} {f : α → Value} {B : Nat} {a : Option Addr} {xs : List α} {cap : Nat} {w : World} (h : RowF f B a xs cap w) : ∀ b ∈ sliceBlk (.slice a xs.length cap), B ≤ b := fun b hb => by
  rcases h.1 with rfl | ⟨g, off, rfl, hB, _⟩
  · cases a <;> simp [sliceBlk] at hb
  · cases xs with
    | nil => simp [sliceBlk] at hb
    | cons x xs => simp [sliceBlk] at hb; omega
end Go.Proofs.Ytefkhknfjohnaaa
namespace Go.Proofs.Ytefkhknfjohnaaa
open Go Go.RowKit
/-- A literal slice, as a row that the call owns. -/
theorem own_lit {α : Type} {f : α → Value} (w : World) (base : Nat) (e : TypeId) (xs : List α) (hb : base ≤ w.heap.size) (hm : xs.length ≤ maxLen) : (w.alloc (.cells (xs.map f).toArray e)).ownsRow base e 1 (.slice (some ⟨w.heap.size, 0, none⟩) xs.length xs.length) xs.length (xs.map f) :=
  ⟨by simp, .inr ⟨w.heap.size, xs.length, (xs.map f).toArray, rfl, hb, heap_alloc_new w _, Nat.le_refl _, hm, by simp, by simp; exact List.take_of_length_le (by simp)⟩⟩
/-- The tags of a drawn choice: each in its own four numbers. -/
def TagsN (m j : Nat) (ts : List Int) : Prop := ts.length + j = m ∧ ∀ t (h : t < ts.length), 4 * (t : Int) ≤ ts[t] ∧ ts[t] ≤ 4 * (t : Int) + 3
theorem TagsN.push {m j : Nat} {ts : List Int} (h : TagsN m j ts) (hj : 0 < j) {y : Int} (hy : 0 ≤ y ∧ y < 4) : TagsN m (j - 1) (ts ++ [4 * (ts.length : Int) + y]) := by
  obtain ⟨h1, h2⟩ := h
  refine ⟨by simp; omega, fun t ht => ?_⟩
  by_cases e : t < ts.length
  · rw [List.getElem_append_left e]; exact h2 t e
  · simp at ht
    obtain rfl : t = ts.length := by omega
    rw [List.getElem_append_right (Nat.le_refl _)]
    simp only [Nat.sub_self, List.getElem_cons_zero]
    omega
/-- The state of a drawn choice between two alternatives. -/
def Seq7 (a : Option Addr) (len cap c : Nat) (ad : Option Addr) (rs : List RuleV) (capd : Nat) (nm : ByteArray) (k0 : Int) (N B m jn jk : Nat) (w W : World) : Prop :=
  ∃ (vN vK : Value) (ns : List Int) (ks : List Int), TagsN m jn ns ∧ (KidsN rs.length ks ∧ ks.head? = some k0) ∧ ks.length + jk = m + 1 ∧
    W.ownsRow B 3 1 vN ns.length (ns.map (Value.int .i64)) ∧ W.ownsRow B 3 1 vK ks.length (ks.map (Value.int .i64)) ∧ (∀ g, vN.ownBlock = some g → vK.ownBlock ≠ some g) ∧
    CellsAt w.heap.size [.slice ad rs.length capd] W ∧ CellsAt (w.heap.size + 1) [.string ⟨#[]⟩, .int .i64 0, .int .i64 0, .bool false, .slice none 0 0, .slice none 0 0, .slice none 0 0, .slice none 0 0] W ∧ CellsAt N [.string nm, .int .i64 7, .int .i64 0, .bool false, .slice none 0 0, .slice none 0 0, vN, vK] W ∧ Cur a len cap c W ∧ w.grownBy W (some c) ∧ B ≤ W.heap.size
/-- One tag more. -/
theorem Seq7.tag {a : Option Addr} {len cap c : Nat} {ad : Option Addr} {rs : List RuleV} {capd : Nat} {nm : ByteArray} {k0 : Int} {N B m j jk : Nat} {w w6 w7 : World} {vN vK v' : Value} {ns : List Int} {ks : List Int} {y ny : Int} (hj : 0 < j)
    (hcw : c < w.heap.size) (hN : w.heap.size + 2 ≤ N) (hNB : N < B) (hold : ∀ b off, a = some ⟨b, off, none⟩ → 0 < len → b < w.heap.size)
    (hns : TagsN m j ns) (hks : KidsN rs.length ks ∧ ks.head? = some k0) (hkl : ks.length + jk = m + 1) (hoN : w6.ownsRow B 3 1 vN ns.length (ns.map (Value.int .i64))) (hoK : w6.ownsRow B 3 1 vK ks.length (ks.map (Value.int .i64))) (hdis : ∀ g, vN.ownBlock = some g → vK.ownBlock ≠ some g)
    (hX : CellsAt w.heap.size [.slice ad rs.length capd] w6) (hZ : CellsAt (w.heap.size + 1) [.string ⟨#[]⟩, .int .i64 0, .int .i64 0, .bool false, .slice none 0 0, .slice none 0 0, .slice none 0 0, .slice none 0 0] w6) (hO : CellsAt N [.string nm, .int .i64 7, .int .i64 0, .bool false, .slice none 0 0, .slice none 0 0, vN, vK] w6) (hC : Cur a len cap c w6) (hG : w.grownBy w6 (some c)) (hBW : B ≤ w6.heap.size)
    (hy : 0 ≤ y ∧ y < 4) (hny : ny = 4 * (ns.length : Int) + y) (hv : w7.ownsRow B 3 1 v' (ns ++ [ny]).length ((ns ++ [ny]).map (Value.int .i64))) (hg : w6.grownBy w7 vN.ownBlock) (hb : v'.ownBlock = vN.ownBlock ∨ ∃ g, v'.ownBlock = some g ∧ w6.heap.size ≤ g) :
    Seq7 a len cap c ad rs capd nm k0 N B m (j - 1) jk w (w7.setCell ⟨N, 6, none⟩ v') := by
  have hlt : ∀ k, vN.ownBlock = some k → B ≤ k := fun k e => (World.ownsRow.lt hoN k e).1
  have hltK : ∀ k, vK.ownBlock = some k → B ≤ k ∧ k < w6.heap.size := fun k e => World.ownsRow.lt hoK k e
  have hX7 := hX.grown hg (by intro e; have := hlt _ e.symm; omega)
  have hZ7 := hZ.grown hg (by intro e; have := hlt _ e.symm; omega)
  have hO7 := (hO.grown hg (by intro e; have := hlt _ e.symm; omega)).set 6 v' (by simp)
  have hC7 := hC.grown hg (by intro e; have := hlt _ e.symm; omega) (fun b off ha hl => by intro e; have := hlt _ e.symm; have := hold b off ha hl; omega)
  have hK7 := own_keep hoK hg (fun g e f => hdis g f e)
  have hg8 := grown_set (grown_refl w7 N) 6 v'
  simp only [List.set] at hO7
  refine ⟨v', vK, ns ++ [ny], ks, hny ▸ hns.push hj hy, hks, hkl, own_keep hv hg8 (fun g e f => ?_), own_keep hK7 hg8 (fun g e f => ?_), fun g e f => ?_, hX7.far (by omega), hZ7.far (by omega), hO7, hC7.put (by omega) (fun b off ha hl => by have := hold b off ha hl; omega), grown_put (grown_far hG hg (fun k e => by have := hlt _ e; omega)) (by omega), ?_⟩
  · have := (World.ownsRow.lt hv g e).1; injection f with f; omega
  · have := (hltK g e).1; injection f with f; omega
  · rcases hb with hb | ⟨q, hb, hq⟩
    · exact hdis g (hb ▸ e) f
    · rw [hb] at e; injection e with e; have := (hltK g f).2; omega
  · exact Nat.le_trans hBW (Nat.le_trans hg.size hg8.size)
/-- One kid more. -/
theorem Seq7.kid {a : Option Addr} {len cap c : Nat} {ad : Option Addr} {rs : List RuleV} {capd : Nat} {nm : ByteArray} {k0 : Int} {N B m jn j : Nat} {w w6 w7 : World} {vN vK v' : Value} {ns : List Int} {ks : List Int} {x : Int} (hj : 0 < j)
    (hcw : c < w.heap.size) (hN : w.heap.size + 2 ≤ N) (hNB : N < B) (hold : ∀ b off, a = some ⟨b, off, none⟩ → 0 < len → b < w.heap.size)
    (hns : TagsN m jn ns) (hks : KidsN rs.length ks ∧ ks.head? = some k0) (hkl : ks.length + j = m + 1) (hoN : w6.ownsRow B 3 1 vN ns.length (ns.map (Value.int .i64))) (hoK : w6.ownsRow B 3 1 vK ks.length (ks.map (Value.int .i64))) (hdis : ∀ g, vN.ownBlock = some g → vK.ownBlock ≠ some g)
    (hX : CellsAt w.heap.size [.slice ad rs.length capd] w6) (hZ : CellsAt (w.heap.size + 1) [.string ⟨#[]⟩, .int .i64 0, .int .i64 0, .bool false, .slice none 0 0, .slice none 0 0, .slice none 0 0, .slice none 0 0] w6) (hO : CellsAt N [.string nm, .int .i64 7, .int .i64 0, .bool false, .slice none 0 0, .slice none 0 0, vN, vK] w6) (hC : Cur a len cap c w6) (hG : w.grownBy w6 (some c)) (hBW : B ≤ w6.heap.size)
    (hx : 0 ≤ x ∧ x < (rs.length : Int)) (hv : w7.ownsRow B 3 1 v' (ks ++ [x]).length ((ks ++ [x]).map (Value.int .i64))) (hg : w6.grownBy w7 vK.ownBlock) (hb : v'.ownBlock = vK.ownBlock ∨ ∃ g, v'.ownBlock = some g ∧ w6.heap.size ≤ g) :
    Seq7 a len cap c ad rs capd nm k0 N B m jn (j - 1) w (w7.setCell ⟨N, 7, none⟩ v') := by
  have hlt : ∀ k, vK.ownBlock = some k → B ≤ k := fun k e => (World.ownsRow.lt hoK k e).1
  have hltN : ∀ k, vN.ownBlock = some k → B ≤ k ∧ k < w6.heap.size := fun k e => World.ownsRow.lt hoN k e
  have hX7 := hX.grown hg (by intro e; have := hlt _ e.symm; omega)
  have hZ7 := hZ.grown hg (by intro e; have := hlt _ e.symm; omega)
  have hO7 := (hO.grown hg (by intro e; have := hlt _ e.symm; omega)).set 7 v' (by simp)
  have hC7 := hC.grown hg (by intro e; have := hlt _ e.symm; omega) (fun b off ha hl => by intro e; have := hlt _ e.symm; have := hold b off ha hl; omega)
  have hN7 := own_keep hoN hg (fun g e f => hdis g e f)
  have hg8 := grown_set (grown_refl w7 N) 7 v'
  simp only [List.set] at hO7
  refine ⟨vN, v', ns, ks ++ [x], hns, ⟨fun y hy => ?_, by cases ks with | nil => simp at hks | cons k ks => exact hks.2⟩, by simp; omega, own_keep hN7 hg8 (fun g e f => ?_), own_keep hv hg8 (fun g e f => ?_), fun g e f => ?_, hX7.far (by omega), hZ7.far (by omega), hO7, hC7.put (by omega) (fun b off ha hl => by have := hold b off ha hl; omega), grown_put (grown_far hG hg (fun k e => by have := hlt _ e; omega)) (by omega), ?_⟩
  · rcases List.mem_append.1 hy with h | h
    · exact hks.1 y h
    · rw [List.mem_singleton] at h; rw [h]; exact hx
  · have := (hltN g e).1; injection f with f; omega
  · have := (World.ownsRow.lt hv g e).1; injection f with f; omega
  · rcases hb with hb | ⟨q, hb, hq⟩
    · exact hdis g e (hb ▸ f)
    · rw [hb] at f; injection f with f; have := (hltN g e).2; omega
  · exact Nat.le_trans hBW (Nat.le_trans hg.size hg8.size)
theorem tags_ok (lim : Int) : ∀ (ts : List Int) (lo : Int) (k : Nat), (∀ t (h : t < ts.length), 4 * ((k + t : Nat) : Int) ≤ ts[t] ∧ ts[t] ≤ 4 * ((k + t : Nat) : Int) + 3) → lo ≤ 4 * (k : Int) → 4 * ((k + ts.length : Nat) : Int) ≤ lim → tagsOk lim lo ts = true
  | [], _, _, _, _, _ => rfl
  | t :: ts, lo, k, h, h1, h2 => by
    have h0 := h 0 (by simp)
    simp only [List.getElem_cons_zero, Nat.add_zero] at h0
    have hl : (k + (t :: ts).length : Nat) = k + 1 + ts.length := by simp; omega
    unfold tagsOk
    rw [Bool.and_eq_true]
    refine ⟨decide_eq_true (by rw [hl] at h2; omega), tags_ok lim ts (t + 1) (k + 1) (fun j hj => ?_) (by omega) (by rw [hl] at h2; exact h2)⟩
    have := h (j + 1) (by simpa using hj)
    simp only [List.getElem_cons_succ] at this
    have e : k + 1 + j = k + (j + 1) := by omega
    rw [e]
    exact this
theorem limit_int {rs : List RuleV} {x : Int} (hs : ∀ r ∈ rs, r.kind = 1 → 1 ≤ r.size ∧ r.size ≤ 4) (h : IntAt rs x) : 255 ≤ limitAt rs x := by
  obtain ⟨n, hn, rfl, hk⟩ := h
  have h1 := hs _ (List.getElem_mem hn) hk
  rw [limitAt_in hn, if_pos ⟨hk, h1⟩]
  have := (pow256_bounds rs[n].size).1
  omega
theorem kind7 {rs : List RuleV} {nm : ByteArray} {ts ks : List Int} {k0 : Int} {m : Nat} (h : TagsN m 0 ts) (hk : KidsN rs.length ks ∧ ks.head? = some k0) (hl : ks.length + 0 = m + 1) (h1 : 1 ≤ m) (h3 : m ≤ 3) (hlim : 255 ≤ limitAt rs k0) : kindI rs ⟨nm, 7, 0, false, [], [], ts, ks⟩ = true := by
  obtain ⟨ht, hn⟩ := h
  have e : ks.headD 0 = k0 := by
    cases ks with
    | nil => simp at hk
    | cons k ks => simpa using hk.2
  have hok := tags_ok (limitAt rs k0) ts 0 0 (fun t h => by simpa using hn t h) (by omega) (by omega)
  have htb : tagsB rs ⟨nm, 7, 0, false, [], [], ts, ks⟩ = true := by
    unfold tagsB
    rw [Bool.and_eq_true]
    refine ⟨decide_eq_true ⟨by show ks.length = ts.length + 1; omega, by show 1 ≤ ts.length; omega, by show ts.length ≤ 8; omega⟩, ?_⟩
    show tagsOk (limitAt rs (ks.headD 0)) 0 ts = true
    rw [e]
    exact hok
  simp [kindI, meetsB, onlyR, sameR, htb]
end Go.Proofs.Ytefkhknfjohnaaa
