/- A drawn sequence between two parts. -/
import Derived.Test.YtkegjgfggijinaaMake
import Derived.Test.YtkegjgfggijinaaStepF
namespace Go.Proofs.Ytkegjgfggijinaa
open Go Go.RowKit
theorem Cur.grown {a : Option Addr} {len cap c : Nat} {w w' : World} {row : Option Nat} (h : Cur a len cap c w) (hg : w.grownBy w' row) (hc : some c ≠ row) (hs : ∀ b off, a = some ⟨b, off, none⟩ → 0 < len → some b ≠ row) : Cur a len cap c w' := by
  obtain ⟨k, x, hk, c0, c1, c2, f1, f2, hsrc⟩ := h
  have hb := hg.block c (cell_lt c0) hc
  refine ⟨k, x, hk, hg.cell c0 hc, hg.cell c1 hc, hg.cell c2 hc, (World.frozen?_of_block (a := ⟨c, 1, none⟩) hb).trans f1, (World.frozen?_of_block (a := ⟨c, 2, none⟩) hb).trans f2, fun j hj => ?_⟩
  obtain ⟨b, off, y, ha, hne, hy, hcc⟩ := hsrc j hj
  exact ⟨b, off, y, ha, hne, hy, hg.cell hcc (hs b off ha (by omega))⟩
theorem grown_far {w u v : World} {c : Nat} {row : Option Nat} (h : w.grownBy u (some c)) (g : u.grownBy v row) (hr : ∀ k, row = some k → w.heap.size ≤ k) : w.grownBy v (some c) :=
  ⟨g.os.trans h.os, g.tape.trans h.tape, g.output.trans h.output, Nat.le_trans h.size g.size, fun k hk hne => (g.block k (Nat.lt_of_lt_of_le hk h.size) (by intro e; have := hr k e.symm; omega)).trans (h.block k hk hne)⟩
/-- The names of a drawn sequence, from the last part on. -/
def SeqN (m j : Nat) (ns : List ByteArray) : Prop := ns.length + j = m ∧ ∀ t (h : t < ns.length), ∃ s ∈ ([⟨#[112]⟩, ⟨#[113]⟩, ⟨#[114]⟩] : List ByteArray), ns[t] = s ++ digitS (m - t)
/-- Indices of rules. -/
def KidsN (n : Nat) (ks : List Int) : Prop := ∀ x ∈ ks, 0 ≤ x ∧ x < (n : Int)
theorem pqr_size {s : ByteArray} (h : s ∈ ([⟨#[112]⟩, ⟨#[113]⟩, ⟨#[114]⟩] : List ByteArray)) : s.size = 1 := by
  simp only [List.mem_cons, List.not_mem_nil, or_false] at h
  rcases h with rfl | rfl | rfl <;> rfl
theorem SeqN.push {m j : Nat} {ns : List ByteArray} (h : SeqN m j ns) (hj : 0 < j) {y : ByteArray} (hy : y ∈ ([⟨#[112]⟩, ⟨#[113]⟩, ⟨#[114]⟩] : List ByteArray)) : SeqN m (j - 1) (ns ++ [y ++ digitS j]) := by
  obtain ⟨h1, h2⟩ := h
  refine ⟨by simp; omega, fun t ht => ?_⟩
  by_cases e : t < ns.length
  · rw [List.getElem_append_left e]; exact h2 t e
  · simp at ht
    obtain rfl : t = ns.length := by omega
    refine ⟨y, hy, ?_⟩
    rw [List.getElem_append_right (Nat.le_refl _)]
    simp only [Nat.sub_self, List.getElem_cons_zero]
    rw [show m - ns.length = j from by omega]
/-- The state of a drawn sequence between two parts. -/
def Seq6 (a : Option Addr) (len cap c : Nat) (ad : Option Addr) (rs : List RuleV) (capd : Nat) (nm : ByteArray) (N B m jn jk : Nat) (w W : World) : Prop :=
  ∃ (vN vK : Value) (ns : List ByteArray) (ks : List Int), SeqN m jn ns ∧ KidsN rs.length ks ∧ ks.length + jk = m ∧
    W.ownsRow B 9 1 vN ns.length (ns.map Value.string) ∧ W.ownsRow B 3 1 vK ks.length (ks.map (Value.int .i64)) ∧ (∀ g, vN.ownBlock = some g → vK.ownBlock ≠ some g) ∧
    CellsAt w.heap.size [.slice ad rs.length capd] W ∧ CellsAt (w.heap.size + 1) [.string ⟨#[]⟩, .int .i64 0, .int .i64 0, .bool false, .slice none 0 0, .slice none 0 0, .slice none 0 0, .slice none 0 0] W ∧ CellsAt N [.string nm, .int .i64 6, .int .i64 0, .bool false, .slice none 0 0, vN, .slice none 0 0, vK] W ∧ Cur a len cap c W ∧ w.grownBy W (some c) ∧ B ≤ W.heap.size
/-- One name more. -/
theorem Seq6.name {a : Option Addr} {len cap c : Nat} {ad : Option Addr} {rs : List RuleV} {capd : Nat} {nm : ByteArray} {N B m j jk : Nat} {w w6 w7 : World} {vN vK v' : Value} {ns : List ByteArray} {ks : List Int} {y ny : ByteArray} (hj : 0 < j)
    (hcw : c < w.heap.size) (hN : w.heap.size + 2 ≤ N) (hNB : N < B) (hold : ∀ b off, a = some ⟨b, off, none⟩ → 0 < len → b < w.heap.size)
    (hns : SeqN m j ns) (hks : KidsN rs.length ks) (hkl : ks.length + jk = m) (hoN : w6.ownsRow B 9 1 vN ns.length (ns.map Value.string)) (hoK : w6.ownsRow B 3 1 vK ks.length (ks.map (Value.int .i64))) (hdis : ∀ g, vN.ownBlock = some g → vK.ownBlock ≠ some g)
    (hX : CellsAt w.heap.size [.slice ad rs.length capd] w6) (hZ : CellsAt (w.heap.size + 1) [.string ⟨#[]⟩, .int .i64 0, .int .i64 0, .bool false, .slice none 0 0, .slice none 0 0, .slice none 0 0, .slice none 0 0] w6) (hO : CellsAt N [.string nm, .int .i64 6, .int .i64 0, .bool false, .slice none 0 0, vN, .slice none 0 0, vK] w6) (hC : Cur a len cap c w6) (hG : w.grownBy w6 (some c)) (hBW : B ≤ w6.heap.size)
    (hy : y ∈ ([⟨#[112]⟩, ⟨#[113]⟩, ⟨#[114]⟩] : List ByteArray)) (hny : ny = y ++ digitS j) (hv : w7.ownsRow B 9 1 v' (ns ++ [ny]).length ((ns ++ [ny]).map Value.string)) (hg : w6.grownBy w7 vN.ownBlock) (hb : v'.ownBlock = vN.ownBlock ∨ ∃ g, v'.ownBlock = some g ∧ w6.heap.size ≤ g) :
    Seq6 a len cap c ad rs capd nm N B m (j - 1) jk w (w7.setCell ⟨N, 5, none⟩ v') := by
  have hlt : ∀ k, vN.ownBlock = some k → B ≤ k := fun k e => (World.ownsRow.lt hoN k e).1
  have hltK : ∀ k, vK.ownBlock = some k → B ≤ k ∧ k < w6.heap.size := fun k e => World.ownsRow.lt hoK k e
  have hX7 := hX.grown hg (by intro e; have := hlt _ e.symm; omega)
  have hZ7 := hZ.grown hg (by intro e; have := hlt _ e.symm; omega)
  have hO7 := (hO.grown hg (by intro e; have := hlt _ e.symm; omega)).set 5 v' (by simp)
  have hC7 := hC.grown hg (by intro e; have := hlt _ e.symm; omega) (fun b off ha hl => by intro e; have := hlt _ e.symm; have := hold b off ha hl; omega)
  have hK7 := own_keep hoK hg (fun g e f => hdis g f e)
  have hg8 := grown_set (grown_refl w7 N) 5 v'
  simp only [List.set] at hO7
  refine ⟨v', vK, ns ++ [ny], ks, hny ▸ hns.push hj hy, hks, hkl, own_keep hv hg8 (fun g e f => ?_), own_keep hK7 hg8 (fun g e f => ?_), fun g e f => ?_, hX7.far (by omega), hZ7.far (by omega), hO7, hC7.put (by omega) (fun b off ha hl => by have := hold b off ha hl; omega), grown_put (grown_far hG hg (fun k e => by have := hlt _ e; omega)) (by omega), ?_⟩
  · have := (World.ownsRow.lt hv g e).1; injection f with f; omega
  · have := (hltK g e).1; injection f with f; omega
  · rcases hb with hb | ⟨q, hb, hq⟩
    · exact hdis g (hb ▸ e) f
    · rw [hb] at e; injection e with e; have := (hltK g f).2; omega
  · exact Nat.le_trans hBW (Nat.le_trans hg.size hg8.size)
/-- One kid more. -/
theorem Seq6.kid {a : Option Addr} {len cap c : Nat} {ad : Option Addr} {rs : List RuleV} {capd : Nat} {nm : ByteArray} {N B m jn j : Nat} {w w6 w7 : World} {vN vK v' : Value} {ns : List ByteArray} {ks : List Int} {x : Int} (hj : 0 < j)
    (hcw : c < w.heap.size) (hN : w.heap.size + 2 ≤ N) (hNB : N < B) (hold : ∀ b off, a = some ⟨b, off, none⟩ → 0 < len → b < w.heap.size)
    (hns : SeqN m jn ns) (hks : KidsN rs.length ks) (hkl : ks.length + j = m) (hoN : w6.ownsRow B 9 1 vN ns.length (ns.map Value.string)) (hoK : w6.ownsRow B 3 1 vK ks.length (ks.map (Value.int .i64))) (hdis : ∀ g, vN.ownBlock = some g → vK.ownBlock ≠ some g)
    (hX : CellsAt w.heap.size [.slice ad rs.length capd] w6) (hZ : CellsAt (w.heap.size + 1) [.string ⟨#[]⟩, .int .i64 0, .int .i64 0, .bool false, .slice none 0 0, .slice none 0 0, .slice none 0 0, .slice none 0 0] w6) (hO : CellsAt N [.string nm, .int .i64 6, .int .i64 0, .bool false, .slice none 0 0, vN, .slice none 0 0, vK] w6) (hC : Cur a len cap c w6) (hG : w.grownBy w6 (some c)) (hBW : B ≤ w6.heap.size)
    (hx : 0 ≤ x ∧ x < (rs.length : Int)) (hv : w7.ownsRow B 3 1 v' (ks ++ [x]).length ((ks ++ [x]).map (Value.int .i64))) (hg : w6.grownBy w7 vK.ownBlock) (hb : v'.ownBlock = vK.ownBlock ∨ ∃ g, v'.ownBlock = some g ∧ w6.heap.size ≤ g) :
    Seq6 a len cap c ad rs capd nm N B m jn (j - 1) w (w7.setCell ⟨N, 7, none⟩ v') := by
  have hlt : ∀ k, vK.ownBlock = some k → B ≤ k := fun k e => (World.ownsRow.lt hoK k e).1
  have hltN : ∀ k, vN.ownBlock = some k → B ≤ k ∧ k < w6.heap.size := fun k e => World.ownsRow.lt hoN k e
  have hX7 := hX.grown hg (by intro e; have := hlt _ e.symm; omega)
  have hZ7 := hZ.grown hg (by intro e; have := hlt _ e.symm; omega)
  have hO7 := (hO.grown hg (by intro e; have := hlt _ e.symm; omega)).set 7 v' (by simp)
  have hC7 := hC.grown hg (by intro e; have := hlt _ e.symm; omega) (fun b off ha hl => by intro e; have := hlt _ e.symm; have := hold b off ha hl; omega)
  have hN7 := own_keep hoN hg (fun g e f => hdis g e f)
  have hg8 := grown_set (grown_refl w7 N) 7 v'
  simp only [List.set] at hO7
  refine ⟨vN, v', ns, ks ++ [x], hns, fun y hy => ?_, by simp; omega, own_keep hN7 hg8 (fun g e f => ?_), own_keep hv hg8 (fun g e f => ?_), fun g e f => ?_, hX7.far (by omega), hZ7.far (by omega), hO7, hC7.put (by omega) (fun b off ha hl => by have := hold b off ha hl; omega), grown_put (grown_far hG hg (fun k e => by have := hlt _ e; omega)) (by omega), ?_⟩
  · rcases List.mem_append.1 hy with h | h
    · exact hks y h
    · rw [List.mem_singleton] at h; rw [h]; exact hx
  · have := (hltN g e).1; injection f with f; omega
  · have := (World.ownsRow.lt hv g e).1; injection f with f; omega
  · rcases hb with hb | ⟨q, hb, hq⟩
    · exact hdis g e (hb ▸ f)
    · rw [hb] at f; injection f with f; have := (hltN g e).2; omega
  · exact Nat.le_trans hBW (Nat.le_trans hg.size hg8.size)
end Go.Proofs.Ytkegjgfggijinaa
