/- A drawn sequence between two parts. The names of drawn rules and of drawn parts are names, and differ. No program is walked here. A drawn choice between two alternatives. -/
import Derived.Test.YtndjefednfcmmaaGreatDoorMake
import Derived.Test.YtndjefednfcmmaaGreatDoorGTxt
namespace Go.Proofs.YtndjefednfcmmaaGreatDoor
open Go Go.RowKit
theorem Cur.grown {a : Option Addr} {len cap c : Nat} {w w' : World} {row : Option Nat} (h : Cur a len cap c w) (hg : w.grownBy w' row) (hc : some c ≠ row) (hs : ∀ b off, a = some ⟨b, off, none⟩ → 0 < len → some b ≠ row) : Cur a len cap c w' := by
 obtain ⟨k, x, hk, c0, c1, c2, f1, f2, hsrc⟩ := h
 have hb := hg.block c (cell_lt c0) hc
 refine ⟨k, x, hk, hg.cell c0 hc, hg.cell c1 hc, hg.cell c2 hc, (World.frozen?_of_block (a := ⟨c, 1, none⟩) hb).trans f1, (World.frozen?_of_block (a := ⟨c, 2, none⟩) hb).trans f2, fun j hj => ?_⟩
 obtain ⟨b, off, y, ha, hne, hy, hcc⟩ := hsrc j hj
 exact ⟨b, off, y, ha, hne, hy, hg.cell hcc (hs b off ha (by omega))⟩
theorem grown_far {w u v : World} {c : Nat} {row : Option Nat} (h : w.grownBy u (some c)) (g : u.grownBy v row) (hr : ∀ k, row = some k → w.heap.size ≤ k) : w.grownBy v (some c) :=
 ⟨g.os.trans h.os, g.tape.trans h.tape, g.output.trans h.output, Nat.le_trans h.size g.size, fun k hk hne => (g.block k (Nat.lt_of_lt_of_le hk h.size) (by intro e; have := hr k e.symm; omega)).trans (h.block k hk hne)⟩
def SeqN (m j : Nat) (ns : List ByteArray) : Prop := ns.length + j = m ∧ ∀ t (h : t < ns.length), ∃ s ∈ ([⟨#[112]⟩, ⟨#[113]⟩, ⟨#[114]⟩] : List ByteArray), ns[t] = s ++ digitS (m - t)
def KidsN (n : Nat) (ks : List Int) : Prop := ∀ x ∈ ks, 0 ≤ x ∧ x < (n : Int)
theorem pqr_size {s : ByteArray} (h : s ∈ ([⟨#[112]⟩, ⟨#[113]⟩, ⟨#[114]⟩] : List ByteArray)) : s.size = 1 := by
 simp only [List.mem_cons, List.not_mem_nil, or_false] at h
 rcases h with rfl | rfl | rfl <;> rfl
theorem SeqN.push {m j : Nat} {ns : List ByteArray} (h : SeqN m j ns) (hj : 0 < j) {y : ByteArray} (hy : y ∈ ([⟨#[112]⟩, ⟨#[113]⟩, ⟨#[114]⟩] : List ByteArray)) : SeqN m (j - 1) (ns ++ [y ++ digitS j]) := by
 obtain ⟨h1, h2⟩ := h
 refine ⟨by simp; omega, fun t ht => ?_⟩
 by_cases e : t < ns.length
 ·rw [List.getElem_append_left e]; exact h2 t e
 ·simp at ht
  obtain rfl : t = ns.length := by omega
  refine ⟨y, hy, ?_⟩
  rw [List.getElem_append_right (Nat.le_refl _)]
  simp only [Nat.sub_self, List.getElem_cons_zero]
  rw [show m - ns.length = j from by omega]
def Seq6 (a : Option Addr) (len cap c : Nat) (ad : Option Addr) (rs : List RuleV) (capd : Nat) (nm : ByteArray) (N B m jn jk : Nat) (w W : World) : Prop :=
 ∃ (vN vK : Value) (ns : List ByteArray) (ks : List Int), SeqN m jn ns ∧ KidsN rs.length ks ∧ ks.length + jk = m ∧
  W.ownsRow B 9 1 vN ns.length (ns.map Value.string) ∧ W.ownsRow B 3 1 vK ks.length (ks.map (Value.int .i64)) ∧ (∀ g, vN.ownBlock = some g → vK.ownBlock ≠ some g) ∧
  CellsAt w.heap.size [.slice ad rs.length capd] W ∧ CellsAt (w.heap.size + 1) [.string ⟨#[]⟩, .int .i64 0, .int .i64 0, .bool false, .slice none 0 0, .slice none 0 0, .slice none 0 0, .slice none 0 0] W ∧ CellsAt N [.string nm, .int .i64 6, .int .i64 0, .bool false, .slice none 0 0, vN, .slice none 0 0, vK] W ∧ Cur a len cap c W ∧ w.grownBy W (some c) ∧ B ≤ W.heap.size
theorem Seq6.name {a : Option Addr} {len cap c : Nat} {ad : Option Addr} {rs : List RuleV} {capd : Nat} {nm : ByteArray} {N B m j jk : Nat} {w w6 w7 : World} {vN vK v' : Value} {ns : List ByteArray} {ks : List Int} {y ny : ByteArray} (hj : 0 < j)
  (hcw : c < w.heap.size) (hN : w.heap.size + 2 ≤ N) (hNB : N < B) (hold : ∀ b off, a = some ⟨b, off, none⟩ → 0 < len → b < w.heap.size)
  (hns : SeqN m j ns) (hks : KidsN rs.length ks) (hkl : ks.length + jk = m) (hoN : w6.ownsRow B 9 1 vN ns.length (ns.map Value.string)) (hoK : w6.ownsRow B 3 1 vK ks.length (ks.map (Value.int .i64))) (hdis : ∀ g, vN.ownBlock = some g → vK.ownBlock ≠ some g)
  (hX : CellsAt w.heap.size [.slice ad rs.length capd] w6) (hZ : CellsAt (w.heap.size + 1) [.string ⟨#[]⟩, .int .i64 0, .int .i64 0, .bool false, .slice none 0 0, .slice none 0 0, .slice none 0 0, .slice none 0 0] w6) (hO : CellsAt N [.string nm, .int .i64 6, .int .i64 0, .bool false, .slice none 0 0, vN, .slice none 0 0, vK] w6) (hC : Cur a len cap c w6) (hG : w.grownBy w6 (some c)) (hBW : B ≤ w6.heap.size)
  (hy : y ∈ ([⟨#[112]⟩, ⟨#[113]⟩, ⟨#[114]⟩] : List ByteArray)) (hny : ny = y ++ digitS j) (hv : w7.ownsRow B 9 1 v' (ns ++ [ny]).length ((ns ++ [ny]).map Value.string)) (hg : w6.grownBy w7 vN.ownBlock) (hb : v'.ownBlock = vN.ownBlock ∨ ∃ g, v'.ownBlock = some g ∧ w6.heap.size ≤ g) :
  Seq6 a len cap c ad rs capd nm N B m (j - 1) jk w (w7.setCell ⟨N, 5, none⟩ v') := by
 have hlt : ∀ k, vN.ownBlock = some k → B ≤ k := fun k e => (World.ownsRow.lt hoN k e).1
 have hltK : ∀ k, vK.ownBlock = some k → B ≤ k ∧ k < w6.heap.size := fun k e => World.ownsRow.lt hoK k e
 have hX7 := hX.grown hg (by intro e; have := hlt _ e.symm; omega)
 have hZ7 := hZ.grown hg (by intro e; have := hlt _ e.symm; omega)
 have hO7 := (hO.grown hg (by intro e; have := hlt _ e.symm; omega)).set 5 v' (by simp)
 have hC7 := hC.grown hg (by intro e; have := hlt _ e.symm; omega) (fun b off ha hl => by intro e; have := hlt _ e.symm; have := hold b off ha hl; omega)
 have hK7 := own_keep hoK hg (fun g e f => hdis g f e)
 have hg8 := grown_set (grown_refl w7 N) 5 v'
 simp only [List.set] at hO7
 refine ⟨v', vK, ns ++ [ny], ks, hny ▸ hns.push hj hy, hks, hkl, own_keep hv hg8 (fun g e f => ?_), own_keep hK7 hg8 (fun g e f => ?_), fun g e f => ?_, hX7.far (by omega), hZ7.far (by omega), hO7, hC7.put (by omega) (fun b off ha hl => by have := hold b off ha hl; omega), grown_put (grown_far hG hg (fun k e => by have := hlt _ e; omega)) (by omega), ?_⟩
 ·have := (World.ownsRow.lt hv g e).1; injection f with f; omega
 ·have := (hltK g e).1; injection f with f; omega
 ·rcases hb with hb | ⟨q, hb, hq⟩
  ·exact hdis g (hb ▸ e) f
  ·rw [hb] at e; injection e with e; have := (hltK g f).2; omega
 ·exact Nat.le_trans hBW (Nat.le_trans hg.size hg8.size)
theorem Seq6.kid {a : Option Addr} {len cap c : Nat} {ad : Option Addr} {rs : List RuleV} {capd : Nat} {nm : ByteArray} {N B m jn j : Nat} {w w6 w7 : World} {vN vK v' : Value} {ns : List ByteArray} {ks : List Int} {x : Int} (hj : 0 < j)
  (hcw : c < w.heap.size) (hN : w.heap.size + 2 ≤ N) (hNB : N < B) (hold : ∀ b off, a = some ⟨b, off, none⟩ → 0 < len → b < w.heap.size)
  (hns : SeqN m jn ns) (hks : KidsN rs.length ks) (hkl : ks.length + j = m) (hoN : w6.ownsRow B 9 1 vN ns.length (ns.map Value.string)) (hoK : w6.ownsRow B 3 1 vK ks.length (ks.map (Value.int .i64))) (hdis : ∀ g, vN.ownBlock = some g → vK.ownBlock ≠ some g)
  (hX : CellsAt w.heap.size [.slice ad rs.length capd] w6) (hZ : CellsAt (w.heap.size + 1) [.string ⟨#[]⟩, .int .i64 0, .int .i64 0, .bool false, .slice none 0 0, .slice none 0 0, .slice none 0 0, .slice none 0 0] w6) (hO : CellsAt N [.string nm, .int .i64 6, .int .i64 0, .bool false, .slice none 0 0, vN, .slice none 0 0, vK] w6) (hC : Cur a len cap c w6) (hG : w.grownBy w6 (some c)) (hBW : B ≤ w6.heap.size)
  (hx : 0 ≤ x ∧ x < (rs.length : Int)) (hv : w7.ownsRow B 3 1 v' (ks ++ [x]).length ((ks ++ [x]).map (Value.int .i64))) (hg : w6.grownBy w7 vK.ownBlock) (hb : v'.ownBlock = vK.ownBlock ∨ ∃ g, v'.ownBlock = some g ∧ w6.heap.size ≤ g) :
  Seq6 a len cap c ad rs capd nm N B m jn (j - 1) w (w7.setCell ⟨N, 7, none⟩ v') := by
 have hlt : ∀ k, vK.ownBlock = some k → B ≤ k := fun k e => (World.ownsRow.lt hoK k e).1
 have hltN : ∀ k, vN.ownBlock = some k → B ≤ k ∧ k < w6.heap.size := fun k e => World.ownsRow.lt hoN k e
 have hX7 := hX.grown hg (by intro e; have := hlt _ e.symm; omega)
 have hZ7 := hZ.grown hg (by intro e; have := hlt _ e.symm; omega)
 have hO7 := (hO.grown hg (by intro e; have := hlt _ e.symm; omega)).set 7 v' (by simp)
 have hC7 := hC.grown hg (by intro e; have := hlt _ e.symm; omega) (fun b off ha hl => by intro e; have := hlt _ e.symm; have := hold b off ha hl; omega)
 have hN7 := own_keep hoN hg (fun g e f => hdis g e f)
 have hg8 := grown_set (grown_refl w7 N) 7 v'
 simp only [List.set] at hO7
 refine ⟨vN, v', ns, ks ++ [x], hns, fun y hy => ?_, by simp; omega, own_keep hN7 hg8 (fun g e f => ?_), own_keep hv hg8 (fun g e f => ?_), fun g e f => ?_, hX7.far (by omega), hZ7.far (by omega), hO7, hC7.put (by omega) (fun b off ha hl => by have := hold b off ha hl; omega), grown_put (grown_far hG hg (fun k e => by have := hlt _ e; omega)) (by omega), ?_⟩
 ·rcases List.mem_append.1 hy with h | h
  ·exact hks y h
  ·rw [List.mem_singleton] at h; rw [h]; exact hx
 ·have := (hltN g e).1; injection f with f; omega
 ·have := (World.ownsRow.lt hv g e).1; injection f with f; omega
 ·rcases hb with hb | ⟨q, hb, hq⟩
  ·exact hdis g e (hb ▸ f)
  ·rw [hb] at f; injection f with f; have := (hltN g e).2; omega
 ·exact Nat.le_trans hBW (Nat.le_trans hg.size hg8.size)
def pqr : List ByteArray := [⟨#[112]⟩, ⟨#[113]⟩, ⟨#[114]⟩]
theorem name_all : ∀ s ∈ bases ++ pqr, ∀ n : Fin 10, (∀ i : Fin (s ++ digitS n.val).size, nameAt (s ++ digitS n.val)[i.val] i.val) ∧ 1 ≤ (s ++ digitS n.val).size ∧ (s ++ digitS n.val).size ≤ 12 := by decide +kernel
theorem name_made {s : ByteArray} {n : Nat} (hs : s ∈ bases ++ pqr) (hn : n < 10) : nameB (s ++ digitS n) = true := by
 obtain ⟨h1, h2⟩ := name_all s hs ⟨n, hn⟩
 rw [nameB_end (fun i hi _ => h1 ⟨i, hi⟩)]
 exact decide_eq_true h2
theorem name_ne : ∀ s ∈ bases ++ pqr, ∀ t ∈ bases ++ pqr, ∀ n m : Fin 10, n ≠ m → s ++ digitS n.val ≠ t ++ digitS m.val := by decide +kernel
theorem made_ne {s t : ByteArray} {n m : Nat} (hs : s ∈ bases ++ pqr) (ht : t ∈ bases ++ pqr) (hn : n < 10) (hm : m < 10) (hne : n ≠ m) : s ++ digitS n ≠ t ++ digitS m := name_ne s hs t ht ⟨n, hn⟩ ⟨m, hm⟩ fun e => hne (by injection e)
theorem names_seq {m : Nat} {ns : List ByteArray} (h : SeqN m 0 ns) (h1 : 1 ≤ m) (h3 : m ≤ 3) : namesB ns = true := by
 obtain ⟨hl, hn⟩ := h
 have hl' : ns.length = m := by omega
 have hto : namesTo ns ns.length := fun i hi _ => by
  obtain ⟨s, hs, e⟩ := hn i hi
  refine ⟨?_, hasS_false fun hmem => ?_⟩
  ·rw [e]; exact name_made (List.mem_append_right _ hs) (by omega)
  ·obtain ⟨t, ht, e2⟩ := List.getElem_of_mem hmem
   rw [List.getElem_take] at e2
   have ht2 : t < i ∧ t < ns.length := by simp at ht; omega
   obtain ⟨s2, hs2, e3⟩ := hn t ht2.2
   rw [e3, e] at e2
   exact made_ne (List.mem_append_right _ hs2) (List.mem_append_right _ hs) (by omega) (by omega) (by omega) e2
 rw [namesB_end hto]
 exact decide_eq_true (by omega)
theorem kids_seq {n : Nat} {ks : List Int} (h : KidsN n ks) : kidsB ks (n : Int) = true := by
 unfold kidsB
 rw [List.all_eq_true]
 intro x hx
 have := h x hx
 exact decide_eq_true (by omega)
theorem kind6 {rs : List RuleV} {nm : ByteArray} {ns : List ByteArray} {ks : List Int} {m : Nat} (h : SeqN m 0 ns) (hk : ks.length + 0 = m) (h1 : 1 ≤ m) (h3 : m ≤ 3) : kindI rs ⟨nm, 6, 0, false, [], ns, [], ks⟩ = true := by
 have h2 := names_seq h h1 h3
 have h4 := h.1
 simp [kindI, meetsB, onlyR, sameR, h2]
 omega
theorem row_blk {α : Type} {f : α → Value} {B : Nat} {a : Option Addr} {xs : List α} {cap : Nat} {w : World} (h : RowF f B a xs cap w) : ∀ b ∈ sliceBlk (.slice a xs.length cap), B ≤ b := fun b hb => by
 rcases h.1 with rfl | ⟨g, off, rfl, hB, _⟩
 ·cases a <;> simp [sliceBlk] at hb
 ·cases xs with
  | nil => simp [sliceBlk] at hb
  | cons x xs => simp [sliceBlk] at hb; omega
theorem own_lit {α : Type} {f : α → Value} (w : World) (base : Nat) (e : TypeId) (xs : List α) (hb : base ≤ w.heap.size) (hm : xs.length ≤ maxLen) : (w.alloc (.cells (xs.map f).toArray e)).ownsRow base e 1 (.slice (some ⟨w.heap.size, 0, none⟩) xs.length xs.length) xs.length (xs.map f) :=
 ⟨by simp, .inr ⟨w.heap.size, xs.length, (xs.map f).toArray, rfl, hb, heap_alloc_new w _, Nat.le_refl _, hm, by simp, by simp; exact List.take_of_length_le (by simp)⟩⟩
def TagsN (m j : Nat) (ts : List Int) : Prop := ts.length + j = m ∧ ∀ t (h : t < ts.length), 4 * (t : Int) ≤ ts[t] ∧ ts[t] ≤ 4 * (t : Int) + 3
theorem TagsN.push {m j : Nat} {ts : List Int} (h : TagsN m j ts) (hj : 0 < j) {y : Int} (hy : 0 ≤ y ∧ y < 4) : TagsN m (j - 1) (ts ++ [4 * (ts.length : Int) + y]) := by
 obtain ⟨h1, h2⟩ := h
 refine ⟨by simp; omega, fun t ht => ?_⟩
 by_cases e : t < ts.length
 ·rw [List.getElem_append_left e]; exact h2 t e
 ·simp at ht
  obtain rfl : t = ts.length := by omega
  rw [List.getElem_append_right (Nat.le_refl _)]
  simp only [Nat.sub_self, List.getElem_cons_zero]
  omega
def Seq7 (a : Option Addr) (len cap c : Nat) (ad : Option Addr) (rs : List RuleV) (capd : Nat) (nm : ByteArray) (k0 : Int) (N B m jn jk : Nat) (w W : World) : Prop :=
 ∃ (vN vK : Value) (ns : List Int) (ks : List Int), TagsN m jn ns ∧ (KidsN rs.length ks ∧ ks.head? = some k0) ∧ ks.length + jk = m + 1 ∧
  W.ownsRow B 3 1 vN ns.length (ns.map (Value.int .i64)) ∧ W.ownsRow B 3 1 vK ks.length (ks.map (Value.int .i64)) ∧ (∀ g, vN.ownBlock = some g → vK.ownBlock ≠ some g) ∧
  CellsAt w.heap.size [.slice ad rs.length capd] W ∧ CellsAt (w.heap.size + 1) [.string ⟨#[]⟩, .int .i64 0, .int .i64 0, .bool false, .slice none 0 0, .slice none 0 0, .slice none 0 0, .slice none 0 0] W ∧ CellsAt N [.string nm, .int .i64 7, .int .i64 0, .bool false, .slice none 0 0, .slice none 0 0, vN, vK] W ∧ Cur a len cap c W ∧ w.grownBy W (some c) ∧ B ≤ W.heap.size
theorem Seq7.tag {a : Option Addr} {len cap c : Nat} {ad : Option Addr} {rs : List RuleV} {capd : Nat} {nm : ByteArray} {k0 : Int} {N B m j jk : Nat} {w w6 w7 : World} {vN vK v' : Value} {ns : List Int} {ks : List Int} {y ny : Int} (hj : 0 < j)
  (hcw : c < w.heap.size) (hN : w.heap.size + 2 ≤ N) (hNB : N < B) (hold : ∀ b off, a = some ⟨b, off, none⟩ → 0 < len → b < w.heap.size)
  (hns : TagsN m j ns) (hks : KidsN rs.length ks ∧ ks.head? = some k0) (hkl : ks.length + jk = m + 1) (hoN : w6.ownsRow B 3 1 vN ns.length (ns.map (Value.int .i64))) (hoK : w6.ownsRow B 3 1 vK ks.length (ks.map (Value.int .i64))) (hdis : ∀ g, vN.ownBlock = some g → vK.ownBlock ≠ some g)
  (hX : CellsAt w.heap.size [.slice ad rs.length capd] w6) (hZ : CellsAt (w.heap.size + 1) [.string ⟨#[]⟩, .int .i64 0, .int .i64 0, .bool false, .slice none 0 0, .slice none 0 0, .slice none 0 0, .slice none 0 0] w6) (hO : CellsAt N [.string nm, .int .i64 7, .int .i64 0, .bool false, .slice none 0 0, .slice none 0 0, vN, vK] w6) (hC : Cur a len cap c w6) (hG : w.grownBy w6 (some c)) (hBW : B ≤ w6.heap.size)
  (hy : 0 ≤ y ∧ y < 4) (hny : ny = 4 * (ns.length : Int) + y) (hv : w7.ownsRow B 3 1 v' (ns ++ [ny]).length ((ns ++ [ny]).map (Value.int .i64))) (hg : w6.grownBy w7 vN.ownBlock) (hb : v'.ownBlock = vN.ownBlock ∨ ∃ g, v'.ownBlock = some g ∧ w6.heap.size ≤ g) :
  Seq7 a len cap c ad rs capd nm k0 N B m (j - 1) jk w (w7.setCell ⟨N, 6, none⟩ v') := by
 have hlt : ∀ k, vN.ownBlock = some k → B ≤ k := fun k e => (World.ownsRow.lt hoN k e).1
 have hltK : ∀ k, vK.ownBlock = some k → B ≤ k ∧ k < w6.heap.size := fun k e => World.ownsRow.lt hoK k e
 have hX7 := hX.grown hg (by intro e; have := hlt _ e.symm; omega)
 have hZ7 := hZ.grown hg (by intro e; have := hlt _ e.symm; omega)
 have hO7 := (hO.grown hg (by intro e; have := hlt _ e.symm; omega)).set 6 v' (by simp)
 have hC7 := hC.grown hg (by intro e; have := hlt _ e.symm; omega) (fun b off ha hl => by intro e; have := hlt _ e.symm; have := hold b off ha hl; omega)
 have hK7 := own_keep hoK hg (fun g e f => hdis g f e)
 have hg8 := grown_set (grown_refl w7 N) 6 v'
 simp only [List.set] at hO7
 refine ⟨v', vK, ns ++ [ny], ks, hny ▸ hns.push hj hy, hks, hkl, own_keep hv hg8 (fun g e f => ?_), own_keep hK7 hg8 (fun g e f => ?_), fun g e f => ?_, hX7.far (by omega), hZ7.far (by omega), hO7, hC7.put (by omega) (fun b off ha hl => by have := hold b off ha hl; omega), grown_put (grown_far hG hg (fun k e => by have := hlt _ e; omega)) (by omega), ?_⟩
 ·have := (World.ownsRow.lt hv g e).1; injection f with f; omega
 ·have := (hltK g e).1; injection f with f; omega
 ·rcases hb with hb | ⟨q, hb, hq⟩
  ·exact hdis g (hb ▸ e) f
  ·rw [hb] at e; injection e with e; have := (hltK g f).2; omega
 ·exact Nat.le_trans hBW (Nat.le_trans hg.size hg8.size)
theorem Seq7.kid {a : Option Addr} {len cap c : Nat} {ad : Option Addr} {rs : List RuleV} {capd : Nat} {nm : ByteArray} {k0 : Int} {N B m jn j : Nat} {w w6 w7 : World} {vN vK v' : Value} {ns : List Int} {ks : List Int} {x : Int} (hj : 0 < j)
  (hcw : c < w.heap.size) (hN : w.heap.size + 2 ≤ N) (hNB : N < B) (hold : ∀ b off, a = some ⟨b, off, none⟩ → 0 < len → b < w.heap.size)
  (hns : TagsN m jn ns) (hks : KidsN rs.length ks ∧ ks.head? = some k0) (hkl : ks.length + j = m + 1) (hoN : w6.ownsRow B 3 1 vN ns.length (ns.map (Value.int .i64))) (hoK : w6.ownsRow B 3 1 vK ks.length (ks.map (Value.int .i64))) (hdis : ∀ g, vN.ownBlock = some g → vK.ownBlock ≠ some g)
  (hX : CellsAt w.heap.size [.slice ad rs.length capd] w6) (hZ : CellsAt (w.heap.size + 1) [.string ⟨#[]⟩, .int .i64 0, .int .i64 0, .bool false, .slice none 0 0, .slice none 0 0, .slice none 0 0, .slice none 0 0] w6) (hO : CellsAt N [.string nm, .int .i64 7, .int .i64 0, .bool false, .slice none 0 0, .slice none 0 0, vN, vK] w6) (hC : Cur a len cap c w6) (hG : w.grownBy w6 (some c)) (hBW : B ≤ w6.heap.size)
  (hx : 0 ≤ x ∧ x < (rs.length : Int)) (hv : w7.ownsRow B 3 1 v' (ks ++ [x]).length ((ks ++ [x]).map (Value.int .i64))) (hg : w6.grownBy w7 vK.ownBlock) (hb : v'.ownBlock = vK.ownBlock ∨ ∃ g, v'.ownBlock = some g ∧ w6.heap.size ≤ g) :
  Seq7 a len cap c ad rs capd nm k0 N B m jn (j - 1) w (w7.setCell ⟨N, 7, none⟩ v') := by
 have hlt : ∀ k, vK.ownBlock = some k → B ≤ k := fun k e => (World.ownsRow.lt hoK k e).1
 have hltN : ∀ k, vN.ownBlock = some k → B ≤ k ∧ k < w6.heap.size := fun k e => World.ownsRow.lt hoN k e
 have hX7 := hX.grown hg (by intro e; have := hlt _ e.symm; omega)
 have hZ7 := hZ.grown hg (by intro e; have := hlt _ e.symm; omega)
 have hO7 := (hO.grown hg (by intro e; have := hlt _ e.symm; omega)).set 7 v' (by simp)
 have hC7 := hC.grown hg (by intro e; have := hlt _ e.symm; omega) (fun b off ha hl => by intro e; have := hlt _ e.symm; have := hold b off ha hl; omega)
 have hN7 := own_keep hoN hg (fun g e f => hdis g e f)
 have hg8 := grown_set (grown_refl w7 N) 7 v'
 simp only [List.set] at hO7
 refine ⟨vN, v', ns, ks ++ [x], hns, ⟨fun y hy => ?_, by cases ks with | nil => simp at hks | cons k ks => exact hks.2⟩, by simp; omega, own_keep hN7 hg8 (fun g e f => ?_), own_keep hv hg8 (fun g e f => ?_), fun g e f => ?_, hX7.far (by omega), hZ7.far (by omega), hO7, hC7.put (by omega) (fun b off ha hl => by have := hold b off ha hl; omega), grown_put (grown_far hG hg (fun k e => by have := hlt _ e; omega)) (by omega), ?_⟩
 ·rcases List.mem_append.1 hy with h | h
  ·exact hks.1 y h
  ·rw [List.mem_singleton] at h; rw [h]; exact hx
 ·have := (hltN g e).1; injection f with f; omega
 ·have := (World.ownsRow.lt hv g e).1; injection f with f; omega
 ·rcases hb with hb | ⟨q, hb, hq⟩
  ·exact hdis g e (hb ▸ f)
  ·rw [hb] at f; injection f with f; have := (hltN g e).2; omega
 ·exact Nat.le_trans hBW (Nat.le_trans hg.size hg8.size)
theorem tags_ok (lim : Int) : ∀ (ts : List Int) (lo : Int) (k : Nat), (∀ t (h : t < ts.length), 4 * ((k + t : Nat) : Int) ≤ ts[t] ∧ ts[t] ≤ 4 * ((k + t : Nat) : Int) + 3) → lo ≤ 4 * (k : Int) → 4 * ((k + ts.length : Nat) : Int) ≤ lim → tagsOk lim lo ts = true
 | [], _, _, _, _, _ => rfl
 | t :: ts, lo, k, h, h1, h2 => by
  have h0 := h 0 (by simp)
  simp only [List.getElem_cons_zero, Nat.add_zero] at h0
  have hl : (k + (t :: ts).length : Nat) = k + 1 + ts.length := by simp; omega
  unfold tagsOk
  rw [Bool.and_eq_true]
  refine ⟨decide_eq_true (by rw [hl] at h2; omega), tags_ok lim ts (t + 1) (k + 1) (fun j hj => ?_) (by omega) (by rw [hl] at h2; exact h2)⟩
  have := h (j + 1) (by simpa using hj)
  simp only [List.getElem_cons_succ] at this
  have e : k + 1 + j = k + (j + 1) := by omega
  rw [e]
  exact this
theorem limit_int {rs : List RuleV} {x : Int} (hs : ∀ r ∈ rs, r.kind = 1 → 1 ≤ r.size ∧ r.size ≤ 4) (h : IntAt rs x) : 255 ≤ limitAt rs x := by
 obtain ⟨n, hn, rfl, hk⟩ := h
 have h1 := hs _ (List.getElem_mem hn) hk
 rw [limitAt_in hn, if_pos ⟨hk, h1⟩]
 have := (pow256_bounds rs[n].size).1
 omega
theorem kind7 {rs : List RuleV} {nm : ByteArray} {ts ks : List Int} {k0 : Int} {m : Nat} (h : TagsN m 0 ts) (hk : KidsN rs.length ks ∧ ks.head? = some k0) (hl : ks.length + 0 = m + 1) (h1 : 1 ≤ m) (h3 : m ≤ 3) (hlim : 255 ≤ limitAt rs k0) : kindI rs ⟨nm, 7, 0, false, [], [], ts, ks⟩ = true := by
 obtain ⟨ht, hn⟩ := h
 have e : ks.headD 0 = k0 := by
  cases ks with
  | nil => simp at hk
  | cons k ks => simpa using hk.2
 have hok := tags_ok (limitAt rs k0) ts 0 0 (fun t h => by simpa using hn t h) (by omega) (by omega)
 have htb : tagsB rs ⟨nm, 7, 0, false, [], [], ts, ks⟩ = true := by
  unfold tagsB
  rw [Bool.and_eq_true]
  refine ⟨decide_eq_true ⟨by show ks.length = ts.length + 1; omega, by show 1 ≤ ts.length; omega, by show ts.length ≤ 8; omega⟩, ?_⟩
  show tagsOk (limitAt rs (ks.headD 0)) 0 ts = true
  rw [e]
  exact hok
 simp [kindI, meetsB, onlyR, sameR, htb]
end Go.Proofs.YtndjefednfcmmaaGreatDoor
