/- Drawing a description of which one field may be bent: l4Any. -/
import Derived.Test.YtekmopoblfknlaaDescrDraw
import Derived.Test.YtekmopoblfknlaaDescrP
import Derived.Test.YtekmopoblfknlaaBend
import Derived.Test.YtekmopoblfknlaaTill
import Derived.IntWalk
namespace Go.Proofs.Ytekmopoblfknlaa
open Go Go.RowKit
theorem bent_all {rs : List RuleV} {k : Nat} {r' : RuleV} (h : ∀ r ∈ rs, Short r ∧ Spelt r) (h' : Short r' ∧ Spelt r') : ∀ r ∈ rs.set k r', Short r ∧ Spelt r := fun r hr => by
  rcases List.mem_or_eq_of_mem_set hr with hr | rfl
  · exact h r hr
  · exact h'
/-- A description that was drawn and bent: it can be read, it is small. -/
def AnyMade (a : Option Addr) (len cap c : Nat) (w : World) (e : Ending) (w' : World) : Prop :=
  ∃ (rs : List RuleV) (x : Option Addr) (cp : Nat), e = .returned (.agg #[.slice x rs.length cp]) ∧ rs.length ≤ 6 ∧ (∀ r ∈ rs, Short r ∧ Spelt r) ∧ RowR w.heap.size (.slice x rs.length cp) rs w' ∧ Cur a len cap c w' ∧ w.grownBy w' (some c)
/-- What holds ahead of the end. -/
def AnySt (a : Option Addr) (len cap c D B : Nat) (v : Value) (rs : List RuleV) (w W : World) : Prop :=
  CellsAt w.heap.size [.slice none 0 0] W ∧ CellsAt D [v] W ∧ RowR B v rs W ∧ Cur a len cap c W ∧ w.grownBy W (some c)
theorem bent_st {a : Option Addr} {len cap c D g o n cp B k i : Nat} {rs : List RuleV} {r' : RuleV} {u : Value} {cs : List Value} {w y w7 : World} {row : Option Nat} (hB : w.heap.size < B) (hcw : c < w.heap.size) (hold : ∀ b off, a = some ⟨b, off, none⟩ → 0 < len → b < w.heap.size)
    (hX : CellsAt w.heap.size [.slice none 0 0] y) (hD : CellsAt D [.slice (some ⟨g, o, none⟩) n cp] y) (hR : RowO B D (.slice (some ⟨g, o, none⟩) n cp) rs y) (hC : Cur a len cap c y) (hG : w.grownBy y (some c))
    (hk : k < rs.length) (hi8 : i < 8) (hc8 : cs.length = 8) (hcs : ∀ i u, cs[i]? = some u → y.cell? ⟨g, o + k * 8 + i, none⟩ = some u) (hg : y.grownBy w7 row) (hrow : ∀ b, row = some b → b ∈ cs.flatMap blkO) (hgb : B ≤ g ∧ g < D) (hcb : ∀ b ∈ cs.flatMap blkO, B ≤ b ∧ b < D)
    (hnew : IsRule r' (cs.set i u) w7 ∧ CapK (cs.set i u) ∧ ∀ b ∈ (cs.set i u).flatMap sliceBlk, B ≤ b ∧ b ≠ g) :
    AnySt a len cap c D B (.slice (some ⟨g, o, none⟩) n cp) (rs.set k r') w (w7.setCell ⟨g, o + k * 8 + i, none⟩ u) := by
  have hrw : ∀ b, row = some b → B ≤ b ∧ b < D := fun b e => hcb b (hrow b e)
  refine ⟨(hX.grown hg fun e => by have := hrw _ e.symm; omega).far (by omega), (hD.grown hg fun e => by have := hrw _ e.symm; omega).far (by omega), hR.bend hk hi8 hc8 hcs hg hrow hnew,
    (hC.grown hg (fun e => by have := hrw _ e.symm; omega) (fun b off ha hl e => by have := hrw _ e.symm; have := hold b off ha hl; omega)).put (by omega) (fun b off ha hl => by have := hold b off ha hl; omega),
    grown_put (grown_far hG hg fun b e => by have := hrw b e; omega) (by omega)⟩
theorem info8 : (Try.prog.info? 5).map (fun i => (i.zero, i.size, i.bytes)) = some (some (.int .u8 0), 1, 1) := by kernel_rfl
theorem wrap8 (x : UInt8) : IntKind.u8.wrap (x.toNat : Int) = (x.toNat : Int) := by
  have := x.toNat_lt
  simp [IntKind.wrap, IntKind.bits, IntKind.signed]
  omega
theorem OwnedR.slots {lo : Nat} {r : RuleV} {w : World} {n k s l v4 v5 v6 v7 : Value} (h : OwnedR lo r [n, k, s, l, v4, v5, v6, v7] w) : w.ownsRow lo 5 1 v4 r.bytes.length (r.bytes.map bv) ∧ w.ownsRow lo 9 1 v5 r.names.length (r.names.map Value.string) ∧ w.ownsRow lo 3 1 v6 r.tags.length (r.tags.map (Value.int .i64)) ∧ w.ownsRow lo 3 1 v7 r.kids.length (r.kids.map (Value.int .i64)) := by
  obtain ⟨a, b, c, d, e, h4, h5, h6, h7, _⟩ := h
  simp only [List.cons.injEq] at e
  obtain ⟨_, _, _, _, rfl, rfl, rfl, rfl, _⟩ := e
  exact ⟨h4, h5, h6, h7⟩
set_option maxRecDepth 100000 in
set_option maxHeartbeats 16000000 in
theorem any_draw (a : Option Addr) (len cap c : Nat) (w : World) (hl : len ≤ 140737488355328) (hc : Cur a len cap c w) :
    Calls Try.prog 45 #[.pointer (some ⟨c, 0, none⟩)] w (AnyMade a len cap c w) := by
  have hcw : c < w.heap.size := hc.lt
  have hold := Lib.hid hc.old
  obtain ⟨w0, hw0⟩ : ∃ w0, w0 = w.alloc (.cells #[.slice none 0 0] 26) := ⟨_, rfl⟩
  have hB : Below w.heap.size w w0 := by subst hw0; exact (Below.refl _ _).alloc (Nat.le_refl _) _
  have hX : CellsAt w.heap.size [.slice none 0 0] w0 := by subst hw0; exact CellsAt.new w _ _
  have hz : Hid (w0.heap.size = w.heap.size + 1) := by subst hw0; exact World.size_alloc _ _
  have HC := Lib.hid (hc.below hB)
  have HG0 : Hid (w.grownBy w0 (some c)) := grown_of hB
  have HX0 := Lib.hid hX
  have hW := Lib.hid hw0
  clear hc hB hX hw0
  go_enter Try.func45, Try.ntmps45
  go_wp2_with fail
  rw [← hW.out]
  clear hW
  refine (descr_drawO a len cap c _ hl HC.out).mono ?_
  rintro e w1 ⟨rs, x, cp, rfl, hm, ⟨hn1, hn6⟩, hk1, hrow, hc1, hg1⟩
  have hlt : 0 < rs.length := by omega
  obtain ⟨g, off, ex, -⟩ : ∃ g off, x = some ⟨g, off, none⟩ ∧ True := by obtain ⟨b, off, cs, e, _⟩ := hrow.row.at 0 hlt; exact ⟨b, off, e, trivial⟩
  subst ex
  obtain ⟨z, hzz⟩ : ∃ z, z = w1.alloc (.cells #[.slice (some ⟨g, off, none⟩) rs.length cp] 26) := ⟨_, rfl⟩
  have hbz : Below w1.heap.size w1 z := by subst hzz; exact (Below.refl _ _).alloc (Nat.le_refl _) _
  have HD : Hid (CellsAt w1.heap.size [.slice (some ⟨g, off, none⟩) rs.length cp] z) := by subst hzz; exact CellsAt.new w1 _ _
  obtain ⟨B, hBe⟩ : ∃ B, B = w0.heap.size + 2 := ⟨_, rfl⟩
  rw [← hBe] at hrow
  have hwB : w.heap.size < B := by have := hz.out; omega
  have hX1 := HX0.out.grown hg1 (by intro e; injection e with e; omega)
  have HX := Lib.hid (hX1.below hbz)
  have HR := Lib.hid (hrow.below hbz)
  replace HC := Lib.hid (hc1.below hbz)
  have HG : Hid (w.grownBy z (some c)) := grown_below (Lib.grownBy_trans HG0.out hg1) hbz
  have HM : Hid (∀ r ∈ rs, Short r ∧ Spelt r) := fun r hr => ⟨made_short hm r hr, made_spelt hm (by omega) r hr⟩
  have H64 : Hid (∀ j (h : j < rs.length), rs[j].bytes.length ≤ 64 ∧ rs[j].names.length ≤ 64 ∧ rs[j].tags.length ≤ 64 ∧ rs[j].kids.length ≤ 64) := fun j h => kindI_lens64 (hm j h).2.2
  obtain ⟨D, hD⟩ : ∃ D, D = w1.heap.size := ⟨_, rfl⟩
  rw [← hD] at HD HR
  have HDD := Lib.hid hD
  have hW := Lib.hid hzz
  clear hbz hzz hBe hz hm hk1 hrow hc1 hg1 hX1 HX0 HG0 hD
  go_upto_region 2 with fail
  rw [← hW.out, ← HDD.out]
  clear hW HDD
  have bx := (HD.out 0 _ rfl).1
  go_wp2_with fail
  refine (below_draw a len cap c (rs.length : Int) z hl (by omega) (by omega) HC.out).mono ?_
  rintro e z1 ⟨kk, ⟨k0, k1⟩, rfl, hc2, hg2⟩
  obtain ⟨k, rfl⟩ : ∃ k : Nat, kk = (k : Int) := ⟨kk.toNat, by omega⟩
  have hkl : k < rs.length := by omega
  replace HX := Lib.hid (HX.out.grown hg2 (by intro e; injection e with e; omega))
  have hgd := (HR.out.parts hkl)
  have hDc : c < D := by obtain ⟨cs, -, -, -, hgg, -⟩ := hgd; omega
  clear hgd bx
  replace HD := Lib.hid (HD.out.grown hg2 (by intro e; injection e with e; omega))
  replace HR := Lib.hid (HR.out.grown hg2 (by omega))
  replace HG := Lib.hid (Lib.grownBy_trans HG.out hg2)
  replace HC := Lib.hid hc2
  clear hc2 hg2
  go_wp2_with fail
  refine (below_draw a len cap c 16 z1 hl (by omega) (by omega) HC.out).mono ?_
  rintro e z2 ⟨j, ⟨j0, j1⟩, rfl, hc3, hg3⟩
  replace HX := Lib.hid (HX.out.grown hg3 (by intro e; injection e with e; omega))
  replace HD := Lib.hid (HD.out.grown hg3 (by intro e; injection e with e; omega))
  replace HR := Lib.hid (HR.out.grown hg3 (by omega))
  replace HG := Lib.hid (Lib.grownBy_trans HG.out hg3)
  replace HC := Lib.hid hc3
  clear hc3 hg3
  rcases (by omega : j = 0 ∨ j = 1 ∨ j = 2 ∨ j = 3 ∨ j = 4 ∨ j = 5 ∨ j = 6 ∨ j = 7 ∨ j = 8 ∨ 9 ≤ j) with rfl | rfl | rfl | rfl | rfl | rfl | rfl | rfl | rfl | j9
  · go_upto_region 5 with fail
    obtain ⟨cs, hown, hcell, hblk, ⟨hgB, hgD⟩, -⟩ := HR.out.parts hkl
    have HOW := Lib.hid hown
    obtain ⟨v4, v5, v6, v7, rfl, -⟩ := hown
    have HCE := Lib.hid hcell
    have HBL := Lib.hid hblk
    clear hcell hblk
    have k0' : (0 : Int) ≤ (k : Int) := by omega
    have HL := Lib.hid (H64.out k hkl)
    obtain ⟨nm0, hnm0⟩ : ∃ nm0, nm0 = rs[0].name := ⟨_, rfl⟩; have HN0 : Hid (z2.cell? ⟨g, off, none⟩ = some (.string nm0) ∧ z2.frozen? ⟨g, off, none⟩ = false) := (by obtain ⟨cs, hw, hc, -, -, -⟩ := HR.out.parts hlt; obtain ⟨_, _, _, _, rfl, -⟩ := hw; have h1 := hc 0 _ rfl; have h2 : z2.cell? ⟨g, off, none⟩ = some (.string nm0) ∧ z2.frozen? ⟨g, off, none⟩ = false := (by rw [hnm0]; simp only [Nat.zero_mul, Nat.add_zero] at h1; exact h1); exact h2); have HNS : Hid (nm0.size ≤ 1048576) := (by rw [hnm0]; exact (HM.out _ (List.getElem_mem hlt)).2.1); clear hnm0
    have c7 := (HN0.out).1
    have bx := (HD.out 0 _ rfl).1
    refine Till.start (n := 13) (S := fun W => W.cell? ⟨D, 0, none⟩ = some (.slice (some ⟨g, off, none⟩) rs.length cp) ∧ W.cell? ⟨g, off, none⟩ = some ((.string nm0))) (by kernel_rfl) ?_ (fun hHeld => ?_)
    · (try dsimp only); exact ⟨bx, c7⟩
    generalize hzd : z2.drew = zd at hHeld ⊢
    have hzg : z2.grownBy zd none := by rw [← hzd]; exact ⟨rfl, rfl, rfl, Nat.le_refl _, fun k _ _ => rfl⟩
    replace HX := Lib.hid (HX.out.grown hzg (by simp))
    replace HD := Lib.hid (HD.out.grown hzg (by simp))
    replace HC := Lib.hid (HC.out.grown hzg (by simp) (fun b off _ _ => by simp))
    replace HR := Lib.hid (HR.out.keep hzg (fun b _ _ => by simp))
    replace HOW := Lib.hid (HOW.out.keep hzg (fun b _ => by simp))
    replace HG := Lib.hid (grown_far HG.out hzg (by simp))
    replace HCE : Hid (∀ i u, [Value.string rs[k].name, .int .i64 rs[k].kind, .int .i64 rs[k].size, .bool rs[k].little, v4, v5, v6, v7][i]? = some u → zd.cell? ⟨g, off + k * 8 + i, none⟩ = some u ∧ zd.frozen? ⟨g, off + k * 8 + i, none⟩ = false) := fun i u hu => keep_cellB hzg (by simp) (HCE.out i u hu)
    replace HN0 : Hid (zd.cell? ⟨g, off, none⟩ = some (.string nm0) ∧ zd.frozen? ⟨g, off, none⟩ = false) := keep_cellB hzg (by simp) HN0.out
    clear hzd hzg bx c7
    refine Till.take (i := 0) (v := ?v1) (by simp only [List.getElem?_toArray, List.getElem?_cons_zero]; rfl) (by kernel_rfl) (by kernel_rfl) (by kernel_rfl) (by kernel_rfl) (by exact fun _ _ _ h => h) (Or.inl ⟨by rfl, ?hy1⟩) (by assumption) ?rest1
    case hy1 => ((intro W hSw; (try dsimp only at hSw); go_simp); (try with_reducible rfl))
    (try simp only [Act.put, List.setIfInBounds_toArray, List.set_cons_zero, List.set_cons_succ])
    refine Till.take (i := 1) (v := ?v2) (by simp only [List.getElem?_toArray, List.getElem?_cons_succ, List.getElem?_cons_zero]; rfl) (by kernel_rfl) (by kernel_rfl) (by kernel_rfl) (by kernel_rfl) (by exact fun _ _ _ h => h) (Or.inl ⟨by rfl, ?hy2⟩) (by assumption) ?rest2
    case hy2 => ((intro W hSw; (try dsimp only at hSw); go_simp); (try with_reducible rfl))
    (try simp only [Act.put, List.setIfInBounds_toArray, List.set_cons_zero, List.set_cons_succ])
    refine Till.take (i := 2) (v := ?v3) (by simp only [List.getElem?_toArray, List.getElem?_cons_succ, List.getElem?_cons_zero]; rfl) (by kernel_rfl) (by kernel_rfl) (by kernel_rfl) (by kernel_rfl) (by exact fun _ _ _ h => h) (Or.inl ⟨by rfl, ?hy3⟩) (by assumption) ?rest3
    case hy3 => ((intro W hSw; (try dsimp only at hSw); go_simp); (try with_reducible rfl))
    (try simp only [Act.put, List.setIfInBounds_toArray, List.set_cons_zero, List.set_cons_succ])
    refine Till.take (i := 3) (v := ?v4) (by simp only [List.getElem?_toArray, List.getElem?_cons_succ, List.getElem?_cons_zero]; rfl) (by kernel_rfl) (by kernel_rfl) (by kernel_rfl) (by kernel_rfl) (by exact fun _ _ _ h => h) (Or.inl ⟨by rfl, ?hy4⟩) (by assumption) ?rest4
    case hy4 => ((intro W hSw; (try dsimp only at hSw); go_simp); (try with_reducible rfl))
    (try simp only [Act.put, List.setIfInBounds_toArray, List.set_cons_zero, List.set_cons_succ])
    refine Till.take (i := 4) (v := ?v5) (by simp only [List.getElem?_toArray, List.getElem?_cons_succ, List.getElem?_cons_zero]; rfl) (by kernel_rfl) (by kernel_rfl) (by kernel_rfl) (by kernel_rfl) (by exact fun _ _ _ h => h) (Or.inl ⟨by rfl, ?hy5⟩) (by assumption) ?rest5
    case hy5 => ((intro W hSw; (try dsimp only at hSw); go_simp); (try with_reducible rfl))
    (try simp only [Act.put, List.setIfInBounds_toArray, List.set_cons_zero, List.set_cons_succ])
    refine Till.take (i := 5) (v := ?v6) (by simp only [List.getElem?_toArray, List.getElem?_cons_succ, List.getElem?_cons_zero]; rfl) (by kernel_rfl) (by kernel_rfl) (by kernel_rfl) (by kernel_rfl) (by exact fun _ _ _ h => h) (Or.inl ⟨by rfl, ?hy6⟩) (by assumption) ?rest6
    case hy6 => ((intro W hSw; (try dsimp only at hSw); go_simp); (try with_reducible rfl))
    (try simp only [Act.put, List.setIfInBounds_toArray, List.set_cons_zero, List.set_cons_succ])
    refine Till.take (i := 6) (v := ?v7) (by simp only [List.getElem?_toArray, List.getElem?_cons_succ, List.getElem?_cons_zero]; rfl) (by kernel_rfl) (by kernel_rfl) (by kernel_rfl) (by kernel_rfl) (by exact fun _ _ _ h => h) (Or.inl ⟨by rfl, ?hy7⟩) (by assumption) ?rest7
    case hy7 => ((intro W hSw; (try dsimp only at hSw); go_simp); (try with_reducible rfl))
    (try simp only [Act.put, List.setIfInBounds_toArray, List.set_cons_zero, List.set_cons_succ])
    refine Till.take (i := 7) (v := ?v8) (by simp only [List.getElem?_toArray, List.getElem?_cons_succ, List.getElem?_cons_zero]; rfl) (by kernel_rfl) (by kernel_rfl) (by kernel_rfl) (by kernel_rfl) (by exact fun _ _ _ h => h) (Or.inl ⟨by rfl, ?hy8⟩) (by assumption) ?rest8
    case hy8 => ((intro W hSw; (try dsimp only at hSw); go_simp); (try with_reducible rfl))
    (try simp only [Act.put, List.setIfInBounds_toArray, List.set_cons_zero, List.set_cons_succ])
    refine Till.take (i := 8) (v := ?v9) (by simp only [List.getElem?_toArray, List.getElem?_cons_succ, List.getElem?_cons_zero]; rfl) (by kernel_rfl) (by kernel_rfl) (by kernel_rfl) (by kernel_rfl) (by exact fun _ _ _ h => h) (Or.inl ⟨by rfl, ?hy9⟩) (by assumption) ?rest9
    case hy9 => ((intro W hSw; (try dsimp only at hSw); go_simp); (try with_reducible rfl))
    (try simp only [Act.put, List.setIfInBounds_toArray, List.set_cons_zero, List.set_cons_succ])
    refine Till.one (i := 9) (by kernel_rfl) (by simp only [List.getElem?_toArray, List.getElem?_cons_succ, List.getElem?_cons_zero]; rfl) (fun K hK => ?_)
    go_simp
    refine hK.out _ _ ?_ ?_
    · (try dsimp only); exact ⟨(World.cell?_alloc_some _ _ _ (by rw [hHeld.1]; rfl)).trans hHeld.1, (World.cell?_alloc_some _ _ _ (by rw [hHeld.2]; rfl)).trans hHeld.2⟩
    clear hK K
    (try simp only [Act.put, List.setIfInBounds_toArray, List.set_cons_zero, List.set_cons_succ])
    refine Till.one (i := 10) (by kernel_rfl) (by simp only [List.getElem?_toArray, List.getElem?_cons_succ, List.getElem?_cons_zero]; rfl) (fun K hK => ?_)
    go_simp
    go_at_call 65
    refine (str_pick a len cap c 4 [⟨#[]⟩, ⟨#[65]⟩, nm0, ⟨#[118, 101, 114, 121, 108, 111, 110, 103, 110, 97, 109, 101, 105, 110, 100, 101, 101, 100]⟩] _ rfl rfl zd hl (by omega) (by omega) HC.out).mono ?_
    rintro e w5 ⟨y, hy, rfl, hc5, hg⟩
    (try go_wp2_with fail)
    refine hK.out _ _ ?_ ?_
    · (try dsimp only); exact ⟨(keep_cellB hg (by intro e; injection e with e; omega) (HD.out 0 _ rfl)).1, (keep_cellB hg (by intro e; injection e with e; omega) (HN0.out)).1⟩
    clear hK K
    (try simp only [Act.put, List.setIfInBounds_toArray, List.set_cons_zero, List.set_cons_succ])
    replace hHeld : w5.cell? ⟨D, 0, none⟩ = some (.slice (some ⟨g, off, none⟩) rs.length cp) ∧ w5.cell? ⟨g, off, none⟩ = some ((.string nm0)) := by exact ⟨(keep_cellB hg (by intro e; injection e with e; omega) (HD.out 0 _ rfl)).1, (keep_cellB hg (by intro e; injection e with e; omega) (HN0.out)).1⟩
    have hys : y.size ≤ 1048576 := by rcases (by simpa using hy : y = ⟨#[]⟩ ∨ y = ⟨#[65]⟩ ∨ y = nm0 ∨ y = ⟨#[118, 101, 114, 121, 108, 111, 110, 103, 110, 97, 109, 101, 105, 110, 100, 101, 101, 100]⟩) with rfl | rfl | rfl | rfl <;> first | exact HNS.out | decide
    have HYS := Lib.hid hys
    clear hy hys HN0
    have HOW5 : Hid (OwnedR B rs[k] _ w5) := HOW.out.keep hg (fun b hb => by intro e; injection e with e; have := (HOW.out.lt b hb).1; omega)
    have HR5 : Hid (RowO B D _ rs w5) := HR.out.grown hg (by omega)
    have HX5 := Lib.hid (HX.out.grown hg (by intro e; injection e with e; omega))
    have HD5 := Lib.hid (HD.out.grown hg (by intro e; injection e with e; omega))
    have HG5 : Hid (w.grownBy w5 (some c)) := Lib.grownBy_trans HG.out hg
    have HC5 := Lib.hid hc5
    have HE5 : Hid (∀ i u, [Value.string rs[k].name, .int .i64 rs[k].kind, .int .i64 rs[k].size, .bool rs[k].little, v4, v5, v6, v7][i]? = some u → w5.cell? ⟨g, off + k * 8 + i, none⟩ = some u ∧ w5.frozen? ⟨g, off + k * 8 + i, none⟩ = false) := fun i u hu => keep_cellB hg (by intro e; injection e with e; omega) (HCE.out i u hu)
    have hgw5 : g < w5.heap.size := cell_lt (HE5.out 0 _ rfl).1
    have hBw5 : B ≤ w5.heap.size := by omega
    clear hg hc5
    obtain ⟨cz, fz⟩ := HE5.out 0 _ rfl
    simp only [Nat.add_zero] at cz fz
    refine Till.pure (i := 11) (v := ?v10) (by kernel_rfl) (by simp only [List.getElem?_toArray, List.getElem?_cons_succ, List.getElem?_cons_zero]; rfl) (Or.inl ⟨by rfl, ?hy10⟩) (by assumption) ?rest10
    case hy10 => ((intro W hSw; (try dsimp only at hSw); go_simp); (try with_reducible rfl))
    (try simp only [Act.put, List.setIfInBounds_toArray, List.set_cons_zero, List.set_cons_succ])
    refine Till.pure (i := 12) (v := ?v11) (by kernel_rfl) (by simp only [List.getElem?_toArray, List.getElem?_cons_succ, List.getElem?_cons_zero]; rfl) (Or.inl ⟨by rfl, ?hy11⟩) (by assumption) ?rest11
    case hy11 => ((intro W hSw; (try dsimp only at hSw); go_simp); (try with_reducible rfl))
    (try simp only [Act.put, List.setIfInBounds_toArray, List.set_cons_zero, List.set_cons_succ])
    have hnew := four_is (r := ⟨y, rs[k].kind, rs[k].size, rs[k].little, rs[k].bytes, rs[k].names, rs[k].tags, rs[k].kids⟩) HOW5.out.slots.1 HOW5.out.slots.2.1 HOW5.out.slots.2.2.1 HOW5.out.slots.2.2.2 (fun b hb => (HBL.out b (by rw [blks_four]; exact hb)).1)
    have hst := Lib.hid (bent_st (u := .string y) (i := 0) (k := k) hwB hcw hold.out HX5.out HD5.out HR5.out HC5.out HG5.out hkl (by decide) rfl (fun i u hu => (HE5.out i u hu).1) (World.grownBy.refl w5 none) (fun b e => by cases e) ⟨hgB, hgD⟩ (fun b hb => ⟨(HOW5.out.lt b hb).1, (HBL.out b hb).2⟩) hnew)
    clear hnew
    simp only [Nat.add_zero] at hst
    refine Till.last (by kernel_rfl) (by kernel_rfl) (by simp only [List.getElem?_toArray, List.getElem?_cons_succ, List.getElem?_cons_zero]; rfl) (fun K hK => ?_)
    go_simp
    refine hK.out _ _ ?_
    clear hK K
    clear cz fz
    have HBG : Hid (∀ r ∈ rs.set k ⟨y, rs[k].kind, rs[k].size, rs[k].little, rs[k].bytes, rs[k].names, rs[k].tags, rs[k].kids⟩, Short r ∧ Spelt r) := bent_all HM.out ⟨by have := HL.out; unfold Short; simp; omega, ⟨HYS.out, (HM.out _ (List.getElem_mem hkl)).2.2⟩⟩
    generalize w5.setCell ⟨g, off + k * 8, none⟩ (.string y) = wz at hst ⊢
    clear HX5 HD5 HR5 HC5 HG5 HE5 HOW5 HX HD HR HC HG HCE HBL HOW hHeld
    obtain ⟨hX9, hD9, hR9, hC9, hG9⟩ := hst.out
    obtain ⟨z0, t0⟩ := hX9 0 _ rfl
    obtain ⟨d0, -⟩ := hD9 0 _ rfl
    have HRF := Lib.hid ((hR9.grown (grown_set (grown_refl _ w.heap.size) 0 (.slice (some ⟨g, off, none⟩) rs.length cp)) hwB).more (base' := w.heap.size) (by omega))
    have HCF := Lib.hid (hC9.put (q := w.heap.size) (i := 0) (v := .slice (some ⟨g, off, none⟩) rs.length cp) (by omega) (fun b off ha hl => by have := hold.out b off ha hl; omega))
    have HGF := Lib.hid (grown_put (q := w.heap.size) (i := 0) (v := .slice (some ⟨g, off, none⟩) rs.length cp) hG9 (Nat.le_refl _))
    clear hX9 hD9 hR9 hC9 hG9 hst
    go_wp2
    (try simp only [Exit.inBlock, Exit.then])
    refine bodyPost_ret (v := .agg #[.slice (some ⟨g, off, none⟩) rs.length cp]) ?_ rfl ?_
    · simp [results, Try.results45, go_sem, z0]
    · exact ⟨rs.set k ⟨y, rs[k].kind, rs[k].size, rs[k].little, rs[k].bytes, rs[k].names, rs[k].tags, rs[k].kids⟩, _, cp, by rw [List.length_set], by rw [List.length_set]; omega, HBG.out, by rw [List.length_set]; exact HRF.out, HCF.out, HGF.out⟩
  · go_upto_region 7 with fail
    obtain ⟨cs, hown, hcell, hblk, ⟨hgB, hgD⟩, -⟩ := HR.out.parts hkl
    have HOW := Lib.hid hown
    obtain ⟨v4, v5, v6, v7, rfl, -⟩ := hown
    have HCE := Lib.hid hcell
    have HBL := Lib.hid hblk
    clear hcell hblk
    have k0' : (0 : Int) ≤ (k : Int) := by omega
    have HL := Lib.hid (H64.out k hkl)
    have bx := (HD.out 0 _ rfl).1
    refine Till.start (n := 8) (S := fun W => W.cell? ⟨D, 0, none⟩ = some (.slice (some ⟨g, off, none⟩) rs.length cp) ∧ True) (by kernel_rfl) ?_ (fun hHeld => ?_)
    · (try dsimp only); exact ⟨bx, trivial⟩
    generalize hzd : z2.drew = zd at hHeld ⊢
    have hzg : z2.grownBy zd none := by rw [← hzd]; exact ⟨rfl, rfl, rfl, Nat.le_refl _, fun k _ _ => rfl⟩
    replace HX := Lib.hid (HX.out.grown hzg (by simp))
    replace HD := Lib.hid (HD.out.grown hzg (by simp))
    replace HC := Lib.hid (HC.out.grown hzg (by simp) (fun b off _ _ => by simp))
    replace HR := Lib.hid (HR.out.keep hzg (fun b _ _ => by simp))
    replace HOW := Lib.hid (HOW.out.keep hzg (fun b _ => by simp))
    replace HG := Lib.hid (grown_far HG.out hzg (by simp))
    replace HCE : Hid (∀ i u, [Value.string rs[k].name, .int .i64 rs[k].kind, .int .i64 rs[k].size, .bool rs[k].little, v4, v5, v6, v7][i]? = some u → zd.cell? ⟨g, off + k * 8 + i, none⟩ = some u ∧ zd.frozen? ⟨g, off + k * 8 + i, none⟩ = false) := fun i u hu => keep_cellB hzg (by simp) (HCE.out i u hu)
    clear hzd hzg bx
    refine Till.take (i := 0) (v := ?v12) (by simp only [List.getElem?_toArray, List.getElem?_cons_zero]; rfl) (by kernel_rfl) (by kernel_rfl) (by kernel_rfl) (by kernel_rfl) (by exact fun _ _ _ h => h) (Or.inl ⟨by rfl, ?hy12⟩) (by assumption) ?rest12
    case hy12 => ((intro W hSw; (try dsimp only at hSw); go_simp); (try with_reducible rfl))
    (try simp only [Act.put, List.setIfInBounds_toArray, List.set_cons_zero, List.set_cons_succ])
    refine Till.take (i := 1) (v := ?v13) (by simp only [List.getElem?_toArray, List.getElem?_cons_succ, List.getElem?_cons_zero]; rfl) (by kernel_rfl) (by kernel_rfl) (by kernel_rfl) (by kernel_rfl) (by exact fun _ _ _ h => h) (Or.inl ⟨by rfl, ?hy13⟩) (by assumption) ?rest13
    case hy13 => ((intro W hSw; (try dsimp only at hSw); go_simp); (try with_reducible rfl))
    (try simp only [Act.put, List.setIfInBounds_toArray, List.set_cons_zero, List.set_cons_succ])
    refine Till.take (i := 2) (v := ?v14) (by simp only [List.getElem?_toArray, List.getElem?_cons_succ, List.getElem?_cons_zero]; rfl) (by kernel_rfl) (by kernel_rfl) (by kernel_rfl) (by kernel_rfl) (by exact fun _ _ _ h => h) (Or.inl ⟨by rfl, ?hy14⟩) (by assumption) ?rest14
    case hy14 => ((intro W hSw; (try dsimp only at hSw); go_simp); (try with_reducible rfl))
    (try simp only [Act.put, List.setIfInBounds_toArray, List.set_cons_zero, List.set_cons_succ])
    refine Till.take (i := 3) (v := ?v15) (by simp only [List.getElem?_toArray, List.getElem?_cons_succ, List.getElem?_cons_zero]; rfl) (by kernel_rfl) (by kernel_rfl) (by kernel_rfl) (by kernel_rfl) (by exact fun _ _ _ h => h) (Or.inl ⟨by rfl, ?hy15⟩) (by assumption) ?rest15
    case hy15 => ((intro W hSw; (try dsimp only at hSw); go_simp); (try with_reducible rfl))
    (try simp only [Act.put, List.setIfInBounds_toArray, List.set_cons_zero, List.set_cons_succ])
    refine Till.one (i := 4) (by kernel_rfl) (by simp only [List.getElem?_toArray, List.getElem?_cons_succ, List.getElem?_cons_zero]; rfl) (fun K hK => ?_)
    go_simp
    go_at_call 46
    refine (below_draw a len cap c 13 zd hl (by omega) (by omega) HC.out).mono ?_
    rintro e w5 ⟨y, ⟨y0, y1⟩, rfl, hc5, hg⟩
    (try go_wp2_with fail)
    refine hK.out _ _ ?_ ?_
    · (try dsimp only); exact ⟨(keep_cellB hg (by intro e; injection e with e; omega) (HD.out 0 _ rfl)).1, trivial⟩
    clear hK K
    (try simp only [Act.put, List.setIfInBounds_toArray, List.set_cons_zero, List.set_cons_succ])
    replace hHeld : w5.cell? ⟨D, 0, none⟩ = some (.slice (some ⟨g, off, none⟩) rs.length cp) ∧ True := by exact ⟨(keep_cellB hg (by intro e; injection e with e; omega) (HD.out 0 _ rfl)).1, trivial⟩
    obtain ⟨ny, hny⟩ : ∃ ny, ny = y - 1 := ⟨_, rfl⟩
    have hw1 : y - 1 = ny := hny.symm
    have hw2 : IntKind.i64.wrap ny = ny := IntWalk.i64_in _ (by omega)
    clear hny
    have HOW5 : Hid (OwnedR B rs[k] _ w5) := HOW.out.keep hg (fun b hb => by intro e; injection e with e; have := (HOW.out.lt b hb).1; omega)
    have HR5 : Hid (RowO B D _ rs w5) := HR.out.grown hg (by omega)
    have HX5 := Lib.hid (HX.out.grown hg (by intro e; injection e with e; omega))
    have HD5 := Lib.hid (HD.out.grown hg (by intro e; injection e with e; omega))
    have HG5 : Hid (w.grownBy w5 (some c)) := Lib.grownBy_trans HG.out hg
    have HC5 := Lib.hid hc5
    have HE5 : Hid (∀ i u, [Value.string rs[k].name, .int .i64 rs[k].kind, .int .i64 rs[k].size, .bool rs[k].little, v4, v5, v6, v7][i]? = some u → w5.cell? ⟨g, off + k * 8 + i, none⟩ = some u ∧ w5.frozen? ⟨g, off + k * 8 + i, none⟩ = false) := fun i u hu => keep_cellB hg (by intro e; injection e with e; omega) (HCE.out i u hu)
    have hgw5 : g < w5.heap.size := cell_lt (HE5.out 0 _ rfl).1
    have hBw5 : B ≤ w5.heap.size := by omega
    clear hg hc5
    refine Till.pure (i := 5) (v := ?v16) (by kernel_rfl) (by simp only [List.getElem?_toArray, List.getElem?_cons_succ, List.getElem?_cons_zero]; rfl) (Or.inl ⟨by rfl, ?hy16⟩) (by assumption) ?rest16
    case hy16 => ((intro W hSw; (try dsimp only at hSw); go_simp); (try with_reducible rfl))
    (try simp only [Act.put, List.setIfInBounds_toArray, List.set_cons_zero, List.set_cons_succ])
    obtain ⟨cz, fz⟩ := HE5.out 1 _ rfl
    refine Till.pure (i := 6) (v := ?v17) (by kernel_rfl) (by simp only [List.getElem?_toArray, List.getElem?_cons_succ, List.getElem?_cons_zero]; rfl) (Or.inl ⟨by rfl, ?hy17⟩) (by assumption) ?rest17
    case hy17 => ((intro W hSw; (try dsimp only at hSw); go_simp); (try with_reducible rfl))
    (try simp only [Act.put, List.setIfInBounds_toArray, List.set_cons_zero, List.set_cons_succ])
    refine Till.pure (i := 7) (v := ?v18) (by kernel_rfl) (by simp only [List.getElem?_toArray, List.getElem?_cons_succ, List.getElem?_cons_zero]; rfl) (Or.inl ⟨by rfl, ?hy18⟩) (by assumption) ?rest18
    case hy18 => ((intro W hSw; (try dsimp only at hSw); go_simp); (try with_reducible rfl))
    (try simp only [Act.put, List.setIfInBounds_toArray, List.set_cons_zero, List.set_cons_succ])
    have hnew := four_is (r := ⟨rs[k].name, ny, rs[k].size, rs[k].little, rs[k].bytes, rs[k].names, rs[k].tags, rs[k].kids⟩) HOW5.out.slots.1 HOW5.out.slots.2.1 HOW5.out.slots.2.2.1 HOW5.out.slots.2.2.2 (fun b hb => (HBL.out b (by rw [blks_four]; exact hb)).1)
    have hst := Lib.hid (bent_st (u := .int .i64 ny) (i := 1) (k := k) hwB hcw hold.out HX5.out HD5.out HR5.out HC5.out HG5.out hkl (by decide) rfl (fun i u hu => (HE5.out i u hu).1) (World.grownBy.refl w5 none) (fun b e => by cases e) ⟨hgB, hgD⟩ (fun b hb => ⟨(HOW5.out.lt b hb).1, (HBL.out b hb).2⟩) hnew)
    clear hnew
    refine Till.last (by kernel_rfl) (by kernel_rfl) (by simp only [List.getElem?_toArray, List.getElem?_cons_succ, List.getElem?_cons_zero]; rfl) (fun K hK => ?_)
    go_simp
    refine hK.out _ _ ?_
    clear hK K
    clear cz fz
    have HBG : Hid (∀ r ∈ rs.set k ⟨rs[k].name, ny, rs[k].size, rs[k].little, rs[k].bytes, rs[k].names, rs[k].tags, rs[k].kids⟩, Short r ∧ Spelt r) := bent_all HM.out ⟨by have := HL.out; unfold Short; simp; omega, (HM.out _ (List.getElem_mem hkl)).2⟩
    generalize w5.setCell ⟨g, off + k * 8 + 1, none⟩ (.int .i64 ny) = wz at hst ⊢
    clear HX5 HD5 HR5 HC5 HG5 HE5 HOW5 HX HD HR HC HG HCE HBL HOW hHeld
    obtain ⟨hX9, hD9, hR9, hC9, hG9⟩ := hst.out
    obtain ⟨z0, t0⟩ := hX9 0 _ rfl
    obtain ⟨d0, -⟩ := hD9 0 _ rfl
    have HRF := Lib.hid ((hR9.grown (grown_set (grown_refl _ w.heap.size) 0 (.slice (some ⟨g, off, none⟩) rs.length cp)) hwB).more (base' := w.heap.size) (by omega))
    have HCF := Lib.hid (hC9.put (q := w.heap.size) (i := 0) (v := .slice (some ⟨g, off, none⟩) rs.length cp) (by omega) (fun b off ha hl => by have := hold.out b off ha hl; omega))
    have HGF := Lib.hid (grown_put (q := w.heap.size) (i := 0) (v := .slice (some ⟨g, off, none⟩) rs.length cp) hG9 (Nat.le_refl _))
    clear hX9 hD9 hR9 hC9 hG9 hst
    go_wp2
    (try simp only [Exit.inBlock, Exit.then])
    refine bodyPost_ret (v := .agg #[.slice (some ⟨g, off, none⟩) rs.length cp]) ?_ rfl ?_
    · simp [results, Try.results45, go_sem, z0]
    · exact ⟨rs.set k ⟨rs[k].name, ny, rs[k].size, rs[k].little, rs[k].bytes, rs[k].names, rs[k].tags, rs[k].kids⟩, _, cp, by rw [List.length_set], by rw [List.length_set]; omega, HBG.out, by rw [List.length_set]; exact HRF.out, HCF.out, HGF.out⟩
  · go_upto_region 9 with fail
    obtain ⟨cs, hown, hcell, hblk, ⟨hgB, hgD⟩, -⟩ := HR.out.parts hkl
    have HOW := Lib.hid hown
    obtain ⟨v4, v5, v6, v7, rfl, -⟩ := hown
    have HCE := Lib.hid hcell
    have HBL := Lib.hid hblk
    clear hcell hblk
    have k0' : (0 : Int) ≤ (k : Int) := by omega
    have HL := Lib.hid (H64.out k hkl)
    have bx := (HD.out 0 _ rfl).1
    refine Till.start (n := 8) (S := fun W => W.cell? ⟨D, 0, none⟩ = some (.slice (some ⟨g, off, none⟩) rs.length cp) ∧ True) (by kernel_rfl) ?_ (fun hHeld => ?_)
    · (try dsimp only); exact ⟨bx, trivial⟩
    generalize hzd : z2.drew = zd at hHeld ⊢
    have hzg : z2.grownBy zd none := by rw [← hzd]; exact ⟨rfl, rfl, rfl, Nat.le_refl _, fun k _ _ => rfl⟩
    replace HX := Lib.hid (HX.out.grown hzg (by simp))
    replace HD := Lib.hid (HD.out.grown hzg (by simp))
    replace HC := Lib.hid (HC.out.grown hzg (by simp) (fun b off _ _ => by simp))
    replace HR := Lib.hid (HR.out.keep hzg (fun b _ _ => by simp))
    replace HOW := Lib.hid (HOW.out.keep hzg (fun b _ => by simp))
    replace HG := Lib.hid (grown_far HG.out hzg (by simp))
    replace HCE : Hid (∀ i u, [Value.string rs[k].name, .int .i64 rs[k].kind, .int .i64 rs[k].size, .bool rs[k].little, v4, v5, v6, v7][i]? = some u → zd.cell? ⟨g, off + k * 8 + i, none⟩ = some u ∧ zd.frozen? ⟨g, off + k * 8 + i, none⟩ = false) := fun i u hu => keep_cellB hzg (by simp) (HCE.out i u hu)
    clear hzd hzg bx
    refine Till.take (i := 0) (v := ?v19) (by simp only [List.getElem?_toArray, List.getElem?_cons_zero]; rfl) (by kernel_rfl) (by kernel_rfl) (by kernel_rfl) (by kernel_rfl) (by exact fun _ _ _ h => h) (Or.inl ⟨by rfl, ?hy19⟩) (by assumption) ?rest19
    case hy19 => ((intro W hSw; (try dsimp only at hSw); go_simp); (try with_reducible rfl))
    (try simp only [Act.put, List.setIfInBounds_toArray, List.set_cons_zero, List.set_cons_succ])
    refine Till.take (i := 1) (v := ?v20) (by simp only [List.getElem?_toArray, List.getElem?_cons_succ, List.getElem?_cons_zero]; rfl) (by kernel_rfl) (by kernel_rfl) (by kernel_rfl) (by kernel_rfl) (by exact fun _ _ _ h => h) (Or.inl ⟨by rfl, ?hy20⟩) (by assumption) ?rest20
    case hy20 => ((intro W hSw; (try dsimp only at hSw); go_simp); (try with_reducible rfl))
    (try simp only [Act.put, List.setIfInBounds_toArray, List.set_cons_zero, List.set_cons_succ])
    refine Till.take (i := 2) (v := ?v21) (by simp only [List.getElem?_toArray, List.getElem?_cons_succ, List.getElem?_cons_zero]; rfl) (by kernel_rfl) (by kernel_rfl) (by kernel_rfl) (by kernel_rfl) (by exact fun _ _ _ h => h) (Or.inl ⟨by rfl, ?hy21⟩) (by assumption) ?rest21
    case hy21 => ((intro W hSw; (try dsimp only at hSw); go_simp); (try with_reducible rfl))
    (try simp only [Act.put, List.setIfInBounds_toArray, List.set_cons_zero, List.set_cons_succ])
    refine Till.take (i := 3) (v := ?v22) (by simp only [List.getElem?_toArray, List.getElem?_cons_succ, List.getElem?_cons_zero]; rfl) (by kernel_rfl) (by kernel_rfl) (by kernel_rfl) (by kernel_rfl) (by exact fun _ _ _ h => h) (Or.inl ⟨by rfl, ?hy22⟩) (by assumption) ?rest22
    case hy22 => ((intro W hSw; (try dsimp only at hSw); go_simp); (try with_reducible rfl))
    (try simp only [Act.put, List.setIfInBounds_toArray, List.set_cons_zero, List.set_cons_succ])
    refine Till.one (i := 4) (by kernel_rfl) (by simp only [List.getElem?_toArray, List.getElem?_cons_succ, List.getElem?_cons_zero]; rfl) (fun K hK => ?_)
    go_simp
    refine hK.out _ _ ?_ ?_
    · (try dsimp only); exact ⟨(World.cell?_alloc_some _ _ _ (by rw [hHeld.1]; rfl)).trans hHeld.1, trivial⟩
    clear hK K
    (try simp only [Act.put, List.setIfInBounds_toArray, List.set_cons_zero, List.set_cons_succ])
    refine Till.one (i := 5) (by kernel_rfl) (by simp only [List.getElem?_toArray, List.getElem?_cons_succ, List.getElem?_cons_zero]; rfl) (fun K hK => ?_)
    go_simp
    go_at_call 60
    refine (int_pick a len cap c 7 [-1, 0, 1, 4, 5, 64, 65] _ rfl rfl zd hl (by omega) (by omega) HC.out).mono ?_
    rintro e w5 ⟨y, hy, rfl, hc5, hg⟩
    (try go_wp2_with fail)
    refine hK.out _ _ ?_ ?_
    · (try dsimp only); exact ⟨(keep_cellB hg (by intro e; injection e with e; omega) (HD.out 0 _ rfl)).1, trivial⟩
    clear hK K
    (try simp only [Act.put, List.setIfInBounds_toArray, List.set_cons_zero, List.set_cons_succ])
    replace hHeld : w5.cell? ⟨D, 0, none⟩ = some (.slice (some ⟨g, off, none⟩) rs.length cp) ∧ True := by exact ⟨(keep_cellB hg (by intro e; injection e with e; omega) (HD.out 0 _ rfl)).1, trivial⟩
    clear hy
    have HOW5 : Hid (OwnedR B rs[k] _ w5) := HOW.out.keep hg (fun b hb => by intro e; injection e with e; have := (HOW.out.lt b hb).1; omega)
    have HR5 : Hid (RowO B D _ rs w5) := HR.out.grown hg (by omega)
    have HX5 := Lib.hid (HX.out.grown hg (by intro e; injection e with e; omega))
    have HD5 := Lib.hid (HD.out.grown hg (by intro e; injection e with e; omega))
    have HG5 : Hid (w.grownBy w5 (some c)) := Lib.grownBy_trans HG.out hg
    have HC5 := Lib.hid hc5
    have HE5 : Hid (∀ i u, [Value.string rs[k].name, .int .i64 rs[k].kind, .int .i64 rs[k].size, .bool rs[k].little, v4, v5, v6, v7][i]? = some u → w5.cell? ⟨g, off + k * 8 + i, none⟩ = some u ∧ w5.frozen? ⟨g, off + k * 8 + i, none⟩ = false) := fun i u hu => keep_cellB hg (by intro e; injection e with e; omega) (HCE.out i u hu)
    have hgw5 : g < w5.heap.size := cell_lt (HE5.out 0 _ rfl).1
    have hBw5 : B ≤ w5.heap.size := by omega
    clear hg hc5
    obtain ⟨cz, fz⟩ := HE5.out 2 _ rfl
    refine Till.pure (i := 6) (v := ?v23) (by kernel_rfl) (by simp only [List.getElem?_toArray, List.getElem?_cons_succ, List.getElem?_cons_zero]; rfl) (Or.inl ⟨by rfl, ?hy23⟩) (by assumption) ?rest23
    case hy23 => ((intro W hSw; (try dsimp only at hSw); go_simp); (try with_reducible rfl))
    (try simp only [Act.put, List.setIfInBounds_toArray, List.set_cons_zero, List.set_cons_succ])
    refine Till.pure (i := 7) (v := ?v24) (by kernel_rfl) (by simp only [List.getElem?_toArray, List.getElem?_cons_succ, List.getElem?_cons_zero]; rfl) (Or.inl ⟨by rfl, ?hy24⟩) (by assumption) ?rest24
    case hy24 => ((intro W hSw; (try dsimp only at hSw); go_simp); (try with_reducible rfl))
    (try simp only [Act.put, List.setIfInBounds_toArray, List.set_cons_zero, List.set_cons_succ])
    have hnew := four_is (r := ⟨rs[k].name, rs[k].kind, y, rs[k].little, rs[k].bytes, rs[k].names, rs[k].tags, rs[k].kids⟩) HOW5.out.slots.1 HOW5.out.slots.2.1 HOW5.out.slots.2.2.1 HOW5.out.slots.2.2.2 (fun b hb => (HBL.out b (by rw [blks_four]; exact hb)).1)
    have hst := Lib.hid (bent_st (u := .int .i64 y) (i := 2) (k := k) hwB hcw hold.out HX5.out HD5.out HR5.out HC5.out HG5.out hkl (by decide) rfl (fun i u hu => (HE5.out i u hu).1) (World.grownBy.refl w5 none) (fun b e => by cases e) ⟨hgB, hgD⟩ (fun b hb => ⟨(HOW5.out.lt b hb).1, (HBL.out b hb).2⟩) hnew)
    clear hnew
    refine Till.last (by kernel_rfl) (by kernel_rfl) (by simp only [List.getElem?_toArray, List.getElem?_cons_succ, List.getElem?_cons_zero]; rfl) (fun K hK => ?_)
    go_simp
    refine hK.out _ _ ?_
    clear hK K
    clear cz fz
    have HBG : Hid (∀ r ∈ rs.set k ⟨rs[k].name, rs[k].kind, y, rs[k].little, rs[k].bytes, rs[k].names, rs[k].tags, rs[k].kids⟩, Short r ∧ Spelt r) := bent_all HM.out ⟨by have := HL.out; unfold Short; simp; omega, (HM.out _ (List.getElem_mem hkl)).2⟩
    generalize w5.setCell ⟨g, off + k * 8 + 2, none⟩ (.int .i64 y) = wz at hst ⊢
    clear HX5 HD5 HR5 HC5 HG5 HE5 HOW5 HX HD HR HC HG HCE HBL HOW hHeld
    obtain ⟨hX9, hD9, hR9, hC9, hG9⟩ := hst.out
    obtain ⟨z0, t0⟩ := hX9 0 _ rfl
    obtain ⟨d0, -⟩ := hD9 0 _ rfl
    have HRF := Lib.hid ((hR9.grown (grown_set (grown_refl _ w.heap.size) 0 (.slice (some ⟨g, off, none⟩) rs.length cp)) hwB).more (base' := w.heap.size) (by omega))
    have HCF := Lib.hid (hC9.put (q := w.heap.size) (i := 0) (v := .slice (some ⟨g, off, none⟩) rs.length cp) (by omega) (fun b off ha hl => by have := hold.out b off ha hl; omega))
    have HGF := Lib.hid (grown_put (q := w.heap.size) (i := 0) (v := .slice (some ⟨g, off, none⟩) rs.length cp) hG9 (Nat.le_refl _))
    clear hX9 hD9 hR9 hC9 hG9 hst
    go_wp2
    (try simp only [Exit.inBlock, Exit.then])
    refine bodyPost_ret (v := .agg #[.slice (some ⟨g, off, none⟩) rs.length cp]) ?_ rfl ?_
    · simp [results, Try.results45, go_sem, z0]
    · exact ⟨rs.set k ⟨rs[k].name, rs[k].kind, y, rs[k].little, rs[k].bytes, rs[k].names, rs[k].tags, rs[k].kids⟩, _, cp, by rw [List.length_set], by rw [List.length_set]; omega, HBG.out, by rw [List.length_set]; exact HRF.out, HCF.out, HGF.out⟩
  · go_upto_region 11 with fail
    obtain ⟨cs, hown, hcell, hblk, ⟨hgB, hgD⟩, -⟩ := HR.out.parts hkl
    have HOW := Lib.hid hown
    obtain ⟨v4, v5, v6, v7, rfl, -⟩ := hown
    have HCE := Lib.hid hcell
    have HBL := Lib.hid hblk
    clear hcell hblk
    have k0' : (0 : Int) ≤ (k : Int) := by omega
    have HL := Lib.hid (H64.out k hkl)
    have c7 := (HCE.out 3 _ rfl).1
    have bx := (HD.out 0 _ rfl).1
    refine Till.start (n := 12) (S := fun W => W.cell? ⟨D, 0, none⟩ = some (.slice (some ⟨g, off, none⟩) rs.length cp) ∧ W.cell? ⟨g, off + k * 8 + 3, none⟩ = some (.bool rs[k].little)) (by kernel_rfl) ?_ (fun hHeld => ?_)
    · (try dsimp only); exact ⟨bx, c7⟩
    generalize hzd : z2.drew = zd at hHeld ⊢
    have hzg : z2.grownBy zd none := by rw [← hzd]; exact ⟨rfl, rfl, rfl, Nat.le_refl _, fun k _ _ => rfl⟩
    replace HX := Lib.hid (HX.out.grown hzg (by simp))
    replace HD := Lib.hid (HD.out.grown hzg (by simp))
    replace HC := Lib.hid (HC.out.grown hzg (by simp) (fun b off _ _ => by simp))
    replace HR := Lib.hid (HR.out.keep hzg (fun b _ _ => by simp))
    replace HOW := Lib.hid (HOW.out.keep hzg (fun b _ => by simp))
    replace HG := Lib.hid (grown_far HG.out hzg (by simp))
    replace HCE : Hid (∀ i u, [Value.string rs[k].name, .int .i64 rs[k].kind, .int .i64 rs[k].size, .bool rs[k].little, v4, v5, v6, v7][i]? = some u → zd.cell? ⟨g, off + k * 8 + i, none⟩ = some u ∧ zd.frozen? ⟨g, off + k * 8 + i, none⟩ = false) := fun i u hu => keep_cellB hzg (by simp) (HCE.out i u hu)
    clear hzd hzg bx c7
    refine Till.take (i := 0) (v := ?v25) (by simp only [List.getElem?_toArray, List.getElem?_cons_zero]; rfl) (by kernel_rfl) (by kernel_rfl) (by kernel_rfl) (by kernel_rfl) (by exact fun _ _ _ h => h) (Or.inl ⟨by rfl, ?hy25⟩) (by assumption) ?rest25
    case hy25 => ((intro W hSw; (try dsimp only at hSw); go_simp); (try with_reducible rfl))
    (try simp only [Act.put, List.setIfInBounds_toArray, List.set_cons_zero, List.set_cons_succ])
    refine Till.take (i := 1) (v := ?v26) (by simp only [List.getElem?_toArray, List.getElem?_cons_succ, List.getElem?_cons_zero]; rfl) (by kernel_rfl) (by kernel_rfl) (by kernel_rfl) (by kernel_rfl) (by exact fun _ _ _ h => h) (Or.inl ⟨by rfl, ?hy26⟩) (by assumption) ?rest26
    case hy26 => ((intro W hSw; (try dsimp only at hSw); go_simp); (try with_reducible rfl))
    (try simp only [Act.put, List.setIfInBounds_toArray, List.set_cons_zero, List.set_cons_succ])
    refine Till.take (i := 2) (v := ?v27) (by simp only [List.getElem?_toArray, List.getElem?_cons_succ, List.getElem?_cons_zero]; rfl) (by kernel_rfl) (by kernel_rfl) (by kernel_rfl) (by kernel_rfl) (by exact fun _ _ _ h => h) (Or.inl ⟨by rfl, ?hy27⟩) (by assumption) ?rest27
    case hy27 => ((intro W hSw; (try dsimp only at hSw); go_simp); (try with_reducible rfl))
    (try simp only [Act.put, List.setIfInBounds_toArray, List.set_cons_zero, List.set_cons_succ])
    refine Till.take (i := 3) (v := ?v28) (by simp only [List.getElem?_toArray, List.getElem?_cons_succ, List.getElem?_cons_zero]; rfl) (by kernel_rfl) (by kernel_rfl) (by kernel_rfl) (by kernel_rfl) (by exact fun _ _ _ h => h) (Or.inl ⟨by rfl, ?hy28⟩) (by assumption) ?rest28
    case hy28 => ((intro W hSw; (try dsimp only at hSw); go_simp); (try with_reducible rfl))
    (try simp only [Act.put, List.setIfInBounds_toArray, List.set_cons_zero, List.set_cons_succ])
    refine Till.take (i := 4) (v := ?v29) (by simp only [List.getElem?_toArray, List.getElem?_cons_succ, List.getElem?_cons_zero]; rfl) (by kernel_rfl) (by kernel_rfl) (by kernel_rfl) (by kernel_rfl) (by exact fun _ _ _ h => h) (Or.inl ⟨by rfl, ?hy29⟩) (by assumption) ?rest29
    case hy29 => ((intro W hSw; (try dsimp only at hSw); go_simp); (try with_reducible rfl))
    (try simp only [Act.put, List.setIfInBounds_toArray, List.set_cons_zero, List.set_cons_succ])
    refine Till.take (i := 5) (v := ?v30) (by simp only [List.getElem?_toArray, List.getElem?_cons_succ, List.getElem?_cons_zero]; rfl) (by kernel_rfl) (by kernel_rfl) (by kernel_rfl) (by kernel_rfl) (by exact fun _ _ _ h => h) (Or.inl ⟨by rfl, ?hy30⟩) (by assumption) ?rest30
    case hy30 => ((intro W hSw; (try dsimp only at hSw); go_simp); (try with_reducible rfl))
    (try simp only [Act.put, List.setIfInBounds_toArray, List.set_cons_zero, List.set_cons_succ])
    refine Till.take (i := 6) (v := ?v31) (by simp only [List.getElem?_toArray, List.getElem?_cons_succ, List.getElem?_cons_zero]; rfl) (by kernel_rfl) (by kernel_rfl) (by kernel_rfl) (by kernel_rfl) (by exact fun _ _ _ h => h) (Or.inl ⟨by rfl, ?hy31⟩) (by assumption) ?rest31
    case hy31 => ((intro W hSw; (try dsimp only at hSw); go_simp); (try with_reducible rfl))
    (try simp only [Act.put, List.setIfInBounds_toArray, List.set_cons_zero, List.set_cons_succ])
    refine Till.take (i := 7) (v := ?v32) (by simp only [List.getElem?_toArray, List.getElem?_cons_succ, List.getElem?_cons_zero]; rfl) (by kernel_rfl) (by kernel_rfl) (by kernel_rfl) (by kernel_rfl) (by exact fun _ _ _ h => h) (Or.inl ⟨by rfl, ?hy32⟩) (by assumption) ?rest32
    case hy32 => ((intro W hSw; (try dsimp only at hSw); go_simp); (try with_reducible rfl))
    (try simp only [Act.put, List.setIfInBounds_toArray, List.set_cons_zero, List.set_cons_succ])
    refine Till.take (i := 8) (v := ?v33) (by simp only [List.getElem?_toArray, List.getElem?_cons_succ, List.getElem?_cons_zero]; rfl) (by kernel_rfl) (by kernel_rfl) (by kernel_rfl) (by kernel_rfl) (by exact fun _ _ _ h => h) (Or.inl ⟨by rfl, ?hy33⟩) (by assumption) ?rest33
    case hy33 => ((intro W hSw; (try dsimp only at hSw); go_simp); (try with_reducible rfl))
    (try simp only [Act.put, List.setIfInBounds_toArray, List.set_cons_zero, List.set_cons_succ])
    refine Till.take (i := 9) (v := ?v34) (by simp only [List.getElem?_toArray, List.getElem?_cons_succ, List.getElem?_cons_zero]; rfl) (by kernel_rfl) (by kernel_rfl) (by kernel_rfl) (by kernel_rfl) (by exact fun _ _ _ h => h) (Or.inl ⟨by rfl, ?hy34⟩) (by assumption) ?rest34
    case hy34 => ((intro W hSw; (try dsimp only at hSw); go_simp); (try with_reducible rfl))
    (try simp only [Act.put, List.setIfInBounds_toArray, List.set_cons_zero, List.set_cons_succ])
    obtain ⟨w5, hw5⟩ : ∃ w5, w5 = zd := ⟨_, rfl⟩
    have hg : zd.grownBy w5 (some c) := by subst hw5; exact World.grownBy.refl _ _
    have hc5 : Cur a len cap c w5 := by subst hw5; exact HC.out
    rw [← hw5] at hHeld ⊢
    clear hw5
    have HOW5 : Hid (OwnedR B rs[k] _ w5) := HOW.out.keep hg (fun b hb => by intro e; injection e with e; have := (HOW.out.lt b hb).1; omega)
    have HR5 : Hid (RowO B D _ rs w5) := HR.out.grown hg (by omega)
    have HX5 := Lib.hid (HX.out.grown hg (by intro e; injection e with e; omega))
    have HD5 := Lib.hid (HD.out.grown hg (by intro e; injection e with e; omega))
    have HG5 : Hid (w.grownBy w5 (some c)) := Lib.grownBy_trans HG.out hg
    have HC5 := Lib.hid hc5
    have HE5 : Hid (∀ i u, [Value.string rs[k].name, .int .i64 rs[k].kind, .int .i64 rs[k].size, .bool rs[k].little, v4, v5, v6, v7][i]? = some u → w5.cell? ⟨g, off + k * 8 + i, none⟩ = some u ∧ w5.frozen? ⟨g, off + k * 8 + i, none⟩ = false) := fun i u hu => keep_cellB hg (by intro e; injection e with e; omega) (HCE.out i u hu)
    have hgw5 : g < w5.heap.size := cell_lt (HE5.out 0 _ rfl).1
    have hBw5 : B ≤ w5.heap.size := by omega
    clear hg hc5
    obtain ⟨cz, fz⟩ := HE5.out 3 _ rfl
    refine Till.pure (i := 10) (v := ?v35) (by kernel_rfl) (by simp only [List.getElem?_toArray, List.getElem?_cons_succ, List.getElem?_cons_zero]; rfl) (Or.inl ⟨by rfl, ?hy35⟩) (by assumption) ?rest35
    case hy35 => ((intro W hSw; (try dsimp only at hSw); go_simp); (try with_reducible rfl))
    (try simp only [Act.put, List.setIfInBounds_toArray, List.set_cons_zero, List.set_cons_succ])
    refine Till.pure (i := 11) (v := ?v36) (by kernel_rfl) (by simp only [List.getElem?_toArray, List.getElem?_cons_succ, List.getElem?_cons_zero]; rfl) (Or.inl ⟨by rfl, ?hy36⟩) (by assumption) ?rest36
    case hy36 => ((intro W hSw; (try dsimp only at hSw); go_simp); (try with_reducible rfl))
    (try simp only [Act.put, List.setIfInBounds_toArray, List.set_cons_zero, List.set_cons_succ])
    have hnew := four_is (r := ⟨rs[k].name, rs[k].kind, rs[k].size, (!rs[k].little), rs[k].bytes, rs[k].names, rs[k].tags, rs[k].kids⟩) HOW5.out.slots.1 HOW5.out.slots.2.1 HOW5.out.slots.2.2.1 HOW5.out.slots.2.2.2 (fun b hb => (HBL.out b (by rw [blks_four]; exact hb)).1)
    have hst := Lib.hid (bent_st (u := .bool (!rs[k].little)) (i := 3) (k := k) hwB hcw hold.out HX5.out HD5.out HR5.out HC5.out HG5.out hkl (by decide) rfl (fun i u hu => (HE5.out i u hu).1) (World.grownBy.refl w5 none) (fun b e => by cases e) ⟨hgB, hgD⟩ (fun b hb => ⟨(HOW5.out.lt b hb).1, (HBL.out b hb).2⟩) hnew)
    clear hnew
    refine Till.last (by kernel_rfl) (by kernel_rfl) (by simp only [List.getElem?_toArray, List.getElem?_cons_succ, List.getElem?_cons_zero]; rfl) (fun K hK => ?_)
    go_simp
    refine hK.out _ _ ?_
    clear hK K
    clear cz fz
    have HBG : Hid (∀ r ∈ rs.set k ⟨rs[k].name, rs[k].kind, rs[k].size, (!rs[k].little), rs[k].bytes, rs[k].names, rs[k].tags, rs[k].kids⟩, Short r ∧ Spelt r) := bent_all HM.out ⟨by have := HL.out; unfold Short; simp; omega, (HM.out _ (List.getElem_mem hkl)).2⟩
    generalize w5.setCell ⟨g, off + k * 8 + 3, none⟩ (.bool (!rs[k].little)) = wz at hst ⊢
    clear HX5 HD5 HR5 HC5 HG5 HE5 HOW5 HX HD HR HC HG HCE HBL HOW hHeld
    obtain ⟨hX9, hD9, hR9, hC9, hG9⟩ := hst.out
    obtain ⟨z0, t0⟩ := hX9 0 _ rfl
    obtain ⟨d0, -⟩ := hD9 0 _ rfl
    have HRF := Lib.hid ((hR9.grown (grown_set (grown_refl _ w.heap.size) 0 (.slice (some ⟨g, off, none⟩) rs.length cp)) hwB).more (base' := w.heap.size) (by omega))
    have HCF := Lib.hid (hC9.put (q := w.heap.size) (i := 0) (v := .slice (some ⟨g, off, none⟩) rs.length cp) (by omega) (fun b off ha hl => by have := hold.out b off ha hl; omega))
    have HGF := Lib.hid (grown_put (q := w.heap.size) (i := 0) (v := .slice (some ⟨g, off, none⟩) rs.length cp) hG9 (Nat.le_refl _))
    clear hX9 hD9 hR9 hC9 hG9 hst
    go_wp2
    (try simp only [Exit.inBlock, Exit.then])
    refine bodyPost_ret (v := .agg #[.slice (some ⟨g, off, none⟩) rs.length cp]) ?_ rfl ?_
    · simp [results, Try.results45, go_sem, z0]
    · exact ⟨rs.set k ⟨rs[k].name, rs[k].kind, rs[k].size, (!rs[k].little), rs[k].bytes, rs[k].names, rs[k].tags, rs[k].kids⟩, _, cp, by rw [List.length_set], by rw [List.length_set]; omega, HBG.out, by rw [List.length_set]; exact HRF.out, HCF.out, HGF.out⟩
  · go_upto_region 13 with fail
    obtain ⟨cs, hown, hcell, hblk, ⟨hgB, hgD⟩, -⟩ := HR.out.parts hkl
    have HOW := Lib.hid hown
    obtain ⟨v4, v5, v6, v7, rfl, -⟩ := hown
    have HCE := Lib.hid hcell
    have HBL := Lib.hid hblk
    clear hcell hblk
    have k0' : (0 : Int) ≤ (k : Int) := by omega
    have HL := Lib.hid (H64.out k hkl)
    have c7 := (HCE.out 7 _ rfl).1
    have bx := (HD.out 0 _ rfl).1
    refine Till.start (n := 16) (S := fun W => W.cell? ⟨D, 0, none⟩ = some (.slice (some ⟨g, off, none⟩) rs.length cp) ∧ W.cell? ⟨g, off + k * 8 + 7, none⟩ = some (v7)) (by kernel_rfl) ?_ (fun hHeld => ?_)
    · (try dsimp only); exact ⟨bx, c7⟩
    generalize hzd : z2.drew = zd at hHeld ⊢
    have hzg : z2.grownBy zd none := by rw [← hzd]; exact ⟨rfl, rfl, rfl, Nat.le_refl _, fun k _ _ => rfl⟩
    replace HX := Lib.hid (HX.out.grown hzg (by simp))
    replace HD := Lib.hid (HD.out.grown hzg (by simp))
    replace HC := Lib.hid (HC.out.grown hzg (by simp) (fun b off _ _ => by simp))
    replace HR := Lib.hid (HR.out.keep hzg (fun b _ _ => by simp))
    replace HOW := Lib.hid (HOW.out.keep hzg (fun b _ => by simp))
    replace HG := Lib.hid (grown_far HG.out hzg (by simp))
    replace HCE : Hid (∀ i u, [Value.string rs[k].name, .int .i64 rs[k].kind, .int .i64 rs[k].size, .bool rs[k].little, v4, v5, v6, v7][i]? = some u → zd.cell? ⟨g, off + k * 8 + i, none⟩ = some u ∧ zd.frozen? ⟨g, off + k * 8 + i, none⟩ = false) := fun i u hu => keep_cellB hzg (by simp) (HCE.out i u hu)
    clear hzd hzg bx c7
    refine Till.take (i := 0) (v := ?v37) (by simp only [List.getElem?_toArray, List.getElem?_cons_zero]; rfl) (by kernel_rfl) (by kernel_rfl) (by kernel_rfl) (by kernel_rfl) (by exact fun _ _ _ h => h) (Or.inl ⟨by rfl, ?hy37⟩) (by assumption) ?rest37
    case hy37 => ((intro W hSw; (try dsimp only at hSw); go_simp); (try with_reducible rfl))
    (try simp only [Act.put, List.setIfInBounds_toArray, List.set_cons_zero, List.set_cons_succ])
    refine Till.take (i := 1) (v := ?v38) (by simp only [List.getElem?_toArray, List.getElem?_cons_succ, List.getElem?_cons_zero]; rfl) (by kernel_rfl) (by kernel_rfl) (by kernel_rfl) (by kernel_rfl) (by exact fun _ _ _ h => h) (Or.inl ⟨by rfl, ?hy38⟩) (by assumption) ?rest38
    case hy38 => ((intro W hSw; (try dsimp only at hSw); go_simp); (try with_reducible rfl))
    (try simp only [Act.put, List.setIfInBounds_toArray, List.set_cons_zero, List.set_cons_succ])
    refine Till.take (i := 2) (v := ?v39) (by simp only [List.getElem?_toArray, List.getElem?_cons_succ, List.getElem?_cons_zero]; rfl) (by kernel_rfl) (by kernel_rfl) (by kernel_rfl) (by kernel_rfl) (by exact fun _ _ _ h => h) (Or.inl ⟨by rfl, ?hy39⟩) (by assumption) ?rest39
    case hy39 => ((intro W hSw; (try dsimp only at hSw); go_simp); (try with_reducible rfl))
    (try simp only [Act.put, List.setIfInBounds_toArray, List.set_cons_zero, List.set_cons_succ])
    refine Till.take (i := 3) (v := ?v40) (by simp only [List.getElem?_toArray, List.getElem?_cons_succ, List.getElem?_cons_zero]; rfl) (by kernel_rfl) (by kernel_rfl) (by kernel_rfl) (by kernel_rfl) (by exact fun _ _ _ h => h) (Or.inl ⟨by rfl, ?hy40⟩) (by assumption) ?rest40
    case hy40 => ((intro W hSw; (try dsimp only at hSw); go_simp); (try with_reducible rfl))
    (try simp only [Act.put, List.setIfInBounds_toArray, List.set_cons_zero, List.set_cons_succ])
    refine Till.take (i := 4) (v := ?v41) (by simp only [List.getElem?_toArray, List.getElem?_cons_succ, List.getElem?_cons_zero]; rfl) (by kernel_rfl) (by kernel_rfl) (by kernel_rfl) (by kernel_rfl) (by exact fun _ _ _ h => h) (Or.inl ⟨by rfl, ?hy41⟩) (by assumption) ?rest41
    case hy41 => ((intro W hSw; (try dsimp only at hSw); go_simp); (try with_reducible rfl))
    (try simp only [Act.put, List.setIfInBounds_toArray, List.set_cons_zero, List.set_cons_succ])
    refine Till.take (i := 5) (v := ?v42) (by simp only [List.getElem?_toArray, List.getElem?_cons_succ, List.getElem?_cons_zero]; rfl) (by kernel_rfl) (by kernel_rfl) (by kernel_rfl) (by kernel_rfl) (by exact fun _ _ _ h => h) (Or.inl ⟨by rfl, ?hy42⟩) (by assumption) ?rest42
    case hy42 => ((intro W hSw; (try dsimp only at hSw); go_simp); (try with_reducible rfl))
    (try simp only [Act.put, List.setIfInBounds_toArray, List.set_cons_zero, List.set_cons_succ])
    refine Till.take (i := 6) (v := ?v43) (by simp only [List.getElem?_toArray, List.getElem?_cons_succ, List.getElem?_cons_zero]; rfl) (by kernel_rfl) (by kernel_rfl) (by kernel_rfl) (by kernel_rfl) (by exact fun _ _ _ h => h) (Or.inl ⟨by rfl, ?hy43⟩) (by assumption) ?rest43
    case hy43 => ((intro W hSw; (try dsimp only at hSw); go_simp); (try with_reducible rfl))
    (try simp only [Act.put, List.setIfInBounds_toArray, List.set_cons_zero, List.set_cons_succ])
    refine Till.take (i := 7) (v := ?v44) (by simp only [List.getElem?_toArray, List.getElem?_cons_succ, List.getElem?_cons_zero]; rfl) (by kernel_rfl) (by kernel_rfl) (by kernel_rfl) (by kernel_rfl) (by exact fun _ _ _ h => h) (Or.inl ⟨by rfl, ?hy44⟩) (by assumption) ?rest44
    case hy44 => ((intro W hSw; (try dsimp only at hSw); go_simp); (try with_reducible rfl))
    (try simp only [Act.put, List.setIfInBounds_toArray, List.set_cons_zero, List.set_cons_succ])
    refine Till.take (i := 8) (v := ?v45) (by simp only [List.getElem?_toArray, List.getElem?_cons_succ, List.getElem?_cons_zero]; rfl) (by kernel_rfl) (by kernel_rfl) (by kernel_rfl) (by kernel_rfl) (by exact fun _ _ _ h => h) (Or.inl ⟨by rfl, ?hy45⟩) (by assumption) ?rest45
    case hy45 => ((intro W hSw; (try dsimp only at hSw); go_simp); (try with_reducible rfl))
    (try simp only [Act.put, List.setIfInBounds_toArray, List.set_cons_zero, List.set_cons_succ])
    refine Till.take (i := 9) (v := ?v46) (by simp only [List.getElem?_toArray, List.getElem?_cons_succ, List.getElem?_cons_zero]; rfl) (by kernel_rfl) (by kernel_rfl) (by kernel_rfl) (by kernel_rfl) (by exact fun _ _ _ h => h) (Or.inl ⟨by rfl, ?hy46⟩) (by assumption) ?rest46
    case hy46 => ((intro W hSw; (try dsimp only at hSw); go_simp); (try with_reducible rfl))
    (try simp only [Act.put, List.setIfInBounds_toArray, List.set_cons_zero, List.set_cons_succ])
    refine Till.one (i := 10) (by kernel_rfl) (by simp only [List.getElem?_toArray, List.getElem?_cons_succ, List.getElem?_cons_zero]; rfl) (fun K hK => ?_)
    go_simp
    go_at_call 46
    refine (below_draw a len cap c 8 zd hl (by omega) (by omega) HC.out).mono ?_
    rintro e w5 ⟨y, ⟨y0, y1⟩, rfl, hc5, hg⟩
    (try go_wp2_with fail)
    refine hK.out _ _ ?_ ?_
    · (try dsimp only); exact ⟨(keep_cellB hg (by intro e; injection e with e; omega) (HD.out 0 _ rfl)).1, (keep_cellB hg (by intro e; injection e with e; omega) (HCE.out 7 _ rfl)).1⟩
    clear hK K
    (try simp only [Act.put, List.setIfInBounds_toArray, List.set_cons_zero, List.set_cons_succ])
    replace hHeld : w5.cell? ⟨D, 0, none⟩ = some (.slice (some ⟨g, off, none⟩) rs.length cp) ∧ w5.cell? ⟨g, off + k * 8 + 7, none⟩ = some (v7) := by exact ⟨(keep_cellB hg (by intro e; injection e with e; omega) (HD.out 0 _ rfl)).1, (keep_cellB hg (by intro e; injection e with e; omega) (HCE.out 7 _ rfl)).1⟩
    obtain ⟨ny, hny⟩ : ∃ ny, ny = y - 1 := ⟨_, rfl⟩
    have hw1 : y - 1 = ny := hny.symm
    have hw2 : IntKind.i64.wrap ny = ny := IntWalk.i64_in _ (by omega)
    clear hny
    have HOW5 : Hid (OwnedR B rs[k] _ w5) := HOW.out.keep hg (fun b hb => by intro e; injection e with e; have := (HOW.out.lt b hb).1; omega)
    have HR5 : Hid (RowO B D _ rs w5) := HR.out.grown hg (by omega)
    have HX5 := Lib.hid (HX.out.grown hg (by intro e; injection e with e; omega))
    have HD5 := Lib.hid (HD.out.grown hg (by intro e; injection e with e; omega))
    have HG5 : Hid (w.grownBy w5 (some c)) := Lib.grownBy_trans HG.out hg
    have HC5 := Lib.hid hc5
    have HE5 : Hid (∀ i u, [Value.string rs[k].name, .int .i64 rs[k].kind, .int .i64 rs[k].size, .bool rs[k].little, v4, v5, v6, v7][i]? = some u → w5.cell? ⟨g, off + k * 8 + i, none⟩ = some u ∧ w5.frozen? ⟨g, off + k * 8 + i, none⟩ = false) := fun i u hu => keep_cellB hg (by intro e; injection e with e; omega) (HCE.out i u hu)
    have hgw5 : g < w5.heap.size := cell_lt (HE5.out 0 _ rfl).1
    have hBw5 : B ≤ w5.heap.size := by omega
    clear hg hc5
    have HOS := Lib.hid HOW5.out.slots.2.2.2
    refine Till.pure (i := 11) (v := ?v47) (by kernel_rfl) (by simp only [List.getElem?_toArray, List.getElem?_cons_succ, List.getElem?_cons_zero]; rfl) (Or.inl ⟨by rfl, ?hy47⟩) (by assumption) ?rest47
    case hy47 => ((intro W hSw; (try dsimp only at hSw); go_simp); (try with_reducible rfl))
    (try simp only [Act.put, List.setIfInBounds_toArray, List.set_cons_zero, List.set_cons_succ])
    refine Till.one (i := 12) (by kernel_rfl) (by simp only [List.getElem?_toArray, List.getElem?_cons_succ, List.getElem?_cons_zero]; rfl) (fun K hK => ?_)
    go_simp
    refine hK.out _ _ ?_ ?_
    · (try dsimp only); exact ⟨(World.cell?_alloc_some _ _ _ (by rw [hHeld.1]; rfl)).trans hHeld.1, (World.cell?_alloc_some _ _ _ (by rw [hHeld.2]; rfl)).trans hHeld.2⟩
    clear hK K
    (try simp only [Act.put, List.setIfInBounds_toArray, List.set_cons_zero, List.set_cons_succ])
    refine Till.one (i := 13) (by kernel_rfl) (by simp only [List.getElem?_toArray, List.getElem?_cons_succ, List.getElem?_cons_zero]; rfl) (fun K hK => ?_)
    refine step_pushF (f := Value.int .i64) 42 3 (.int .i64 0) 8 Try.underlying42 infoInt rfl (by rfl) (.tmp 73) (.tmp 77) (by rfl) B v7 rs[k].kids ny rfl w5 (by simp [Act.eval]) (by simp [Act.eval]) HOS.out (by have := HL.out; unfold maxLen; omega) (by have := HL.out; omega) hBw5 ?_
    intro v' w7 hown7 hg7 hb7
    have hnew := HOW5.out.push7 (fun b hb => (HBL.out b hb).1) hgw5 (e := rfl) hown7 hg7 hb7
    have hst := Lib.hid (bent_st (u := v') (i := 7) (k := k) hwB hcw hold.out HX5.out HD5.out HR5.out HC5.out HG5.out hkl (by decide) rfl (fun i u hu => (HE5.out i u hu).1) hg7 (fun b e => by rw [blks_four]; simp only [List.mem_append, blkO_mem]; simp [e]) ⟨hgB, hgD⟩ (fun b hb => ⟨(HOW5.out.lt b hb).1, (HBL.out b hb).2⟩) hnew)
    have hne7 : some g ≠ Value.ownBlock v7 := fun e => (HBL.out g (by rw [blks_four]; simp only [List.mem_append, blkO_mem]; simp [← e])).1 rfl
    have hneD : some D ≠ Value.ownBlock v7 := fun e => by have := (HBL.out D (by rw [blks_four]; simp only [List.mem_append, blkO_mem]; simp [← e])).2; omega
    obtain ⟨cz, fz⟩ := keep_cellB hg7 hne7 (HE5.out 7 _ rfl)
    obtain ⟨cd, -⟩ := keep_cellB hg7 hneD (HD5.out 0 _ rfl)
    obtain ⟨x', c', rfl, -⟩ := own_row (f := Value.int .i64) hown7
    clear hown7 hg7 hb7 hnew hne7 hneD
    obtain ⟨nl, hnl⟩ : ∃ nl, (rs[k].kids ++ [ny]).length = nl := ⟨_, rfl⟩
    rw [hnl] at hst ⊢
    clear hnl
    refine hK.out _ _ ?_ ?_
    · (try dsimp only); exact ⟨cd, cz⟩
    clear hK K
    (try simp only [Act.put, List.setIfInBounds_toArray, List.set_cons_zero, List.set_cons_succ])
    have hHeld7 : w7.cell? ⟨D, 0, none⟩ = some (.slice (some ⟨g, off, none⟩) rs.length cp) ∧ w7.cell? ⟨g, off + k * 8 + 7, none⟩ = some v7 := ⟨cd, cz⟩
    refine Till.pure (i := 14) (v := ?v48) (by kernel_rfl) (by simp only [List.getElem?_toArray, List.getElem?_cons_succ, List.getElem?_cons_zero]; rfl) (Or.inl ⟨by rfl, ?hy48⟩) (by assumption) ?rest48
    case hy48 => ((intro W hSw; (try dsimp only at hSw); go_simp); (try with_reducible rfl))
    (try simp only [Act.put, List.setIfInBounds_toArray, List.set_cons_zero, List.set_cons_succ])
    refine Till.pure (i := 15) (v := ?v49) (by kernel_rfl) (by simp only [List.getElem?_toArray, List.getElem?_cons_succ, List.getElem?_cons_zero]; rfl) (Or.inl ⟨by rfl, ?hy49⟩) (by assumption) ?rest49
    case hy49 => ((intro W hSw; (try dsimp only at hSw); go_simp); (try with_reducible rfl))
    (try simp only [Act.put, List.setIfInBounds_toArray, List.set_cons_zero, List.set_cons_succ])
    refine Till.last (by kernel_rfl) (by kernel_rfl) (by simp only [List.getElem?_toArray, List.getElem?_cons_succ, List.getElem?_cons_zero]; rfl) (fun K hK => ?_)
    go_simp
    refine hK.out _ _ ?_
    clear hK K
    clear HOS cz fz cd hHeld7
    have HBG : Hid (∀ r ∈ rs.set k ⟨rs[k].name, rs[k].kind, rs[k].size, rs[k].little, rs[k].bytes, rs[k].names, rs[k].tags, rs[k].kids ++ [ny]⟩, Short r ∧ Spelt r) := bent_all HM.out ⟨by have := HL.out; unfold Short; simp; omega, (HM.out _ (List.getElem_mem hkl)).2⟩
    generalize w7.setCell ⟨g, off + k * 8 + 7, none⟩ (.slice x' nl c') = wz at hst ⊢
    clear HX5 HD5 HR5 HC5 HG5 HE5 HOW5 HX HD HR HC HG HCE HBL HOW hHeld
    obtain ⟨hX9, hD9, hR9, hC9, hG9⟩ := hst.out
    obtain ⟨z0, t0⟩ := hX9 0 _ rfl
    obtain ⟨d0, -⟩ := hD9 0 _ rfl
    have HRF := Lib.hid ((hR9.grown (grown_set (grown_refl _ w.heap.size) 0 (.slice (some ⟨g, off, none⟩) rs.length cp)) hwB).more (base' := w.heap.size) (by omega))
    have HCF := Lib.hid (hC9.put (q := w.heap.size) (i := 0) (v := .slice (some ⟨g, off, none⟩) rs.length cp) (by omega) (fun b off ha hl => by have := hold.out b off ha hl; omega))
    have HGF := Lib.hid (grown_put (q := w.heap.size) (i := 0) (v := .slice (some ⟨g, off, none⟩) rs.length cp) hG9 (Nat.le_refl _))
    clear hX9 hD9 hR9 hC9 hG9 hst
    go_wp2
    (try simp only [Exit.inBlock, Exit.then])
    refine bodyPost_ret (v := .agg #[.slice (some ⟨g, off, none⟩) rs.length cp]) ?_ rfl ?_
    · simp [results, Try.results45, go_sem, z0]
    · exact ⟨rs.set k ⟨rs[k].name, rs[k].kind, rs[k].size, rs[k].little, rs[k].bytes, rs[k].names, rs[k].tags, rs[k].kids ++ [ny]⟩, _, cp, by rw [List.length_set], by rw [List.length_set]; omega, HBG.out, by rw [List.length_set]; exact HRF.out, HCF.out, HGF.out⟩
  · go_upto_region 15 with fail
    obtain ⟨cs, hown, hcell, hblk, ⟨hgB, hgD⟩, -⟩ := HR.out.parts hkl
    have HOW := Lib.hid hown
    obtain ⟨v4, v5, v6, v7, rfl, -⟩ := hown
    have HCE := Lib.hid hcell
    have HBL := Lib.hid hblk
    clear hcell hblk
    have k0' : (0 : Int) ≤ (k : Int) := by omega
    have HL := Lib.hid (H64.out k hkl)
    have c7 := (HCE.out 4 _ rfl).1
    have bx := (HD.out 0 _ rfl).1
    refine Till.start (n := 17) (S := fun W => W.cell? ⟨D, 0, none⟩ = some (.slice (some ⟨g, off, none⟩) rs.length cp) ∧ W.cell? ⟨g, off + k * 8 + 4, none⟩ = some (v4)) (by kernel_rfl) ?_ (fun hHeld => ?_)
    · (try dsimp only); exact ⟨bx, c7⟩
    generalize hzd : z2.drew = zd at hHeld ⊢
    have hzg : z2.grownBy zd none := by rw [← hzd]; exact ⟨rfl, rfl, rfl, Nat.le_refl _, fun k _ _ => rfl⟩
    replace HX := Lib.hid (HX.out.grown hzg (by simp))
    replace HD := Lib.hid (HD.out.grown hzg (by simp))
    replace HC := Lib.hid (HC.out.grown hzg (by simp) (fun b off _ _ => by simp))
    replace HR := Lib.hid (HR.out.keep hzg (fun b _ _ => by simp))
    replace HOW := Lib.hid (HOW.out.keep hzg (fun b _ => by simp))
    replace HG := Lib.hid (grown_far HG.out hzg (by simp))
    replace HCE : Hid (∀ i u, [Value.string rs[k].name, .int .i64 rs[k].kind, .int .i64 rs[k].size, .bool rs[k].little, v4, v5, v6, v7][i]? = some u → zd.cell? ⟨g, off + k * 8 + i, none⟩ = some u ∧ zd.frozen? ⟨g, off + k * 8 + i, none⟩ = false) := fun i u hu => keep_cellB hzg (by simp) (HCE.out i u hu)
    clear hzd hzg bx c7
    refine Till.take (i := 0) (v := ?v50) (by simp only [List.getElem?_toArray, List.getElem?_cons_zero]; rfl) (by kernel_rfl) (by kernel_rfl) (by kernel_rfl) (by kernel_rfl) (by exact fun _ _ _ h => h) (Or.inl ⟨by rfl, ?hy50⟩) (by assumption) ?rest50
    case hy50 => ((intro W hSw; (try dsimp only at hSw); go_simp); (try with_reducible rfl))
    (try simp only [Act.put, List.setIfInBounds_toArray, List.set_cons_zero, List.set_cons_succ])
    refine Till.take (i := 1) (v := ?v51) (by simp only [List.getElem?_toArray, List.getElem?_cons_succ, List.getElem?_cons_zero]; rfl) (by kernel_rfl) (by kernel_rfl) (by kernel_rfl) (by kernel_rfl) (by exact fun _ _ _ h => h) (Or.inl ⟨by rfl, ?hy51⟩) (by assumption) ?rest51
    case hy51 => ((intro W hSw; (try dsimp only at hSw); go_simp); (try with_reducible rfl))
    (try simp only [Act.put, List.setIfInBounds_toArray, List.set_cons_zero, List.set_cons_succ])
    refine Till.take (i := 2) (v := ?v52) (by simp only [List.getElem?_toArray, List.getElem?_cons_succ, List.getElem?_cons_zero]; rfl) (by kernel_rfl) (by kernel_rfl) (by kernel_rfl) (by kernel_rfl) (by exact fun _ _ _ h => h) (Or.inl ⟨by rfl, ?hy52⟩) (by assumption) ?rest52
    case hy52 => ((intro W hSw; (try dsimp only at hSw); go_simp); (try with_reducible rfl))
    (try simp only [Act.put, List.setIfInBounds_toArray, List.set_cons_zero, List.set_cons_succ])
    refine Till.take (i := 3) (v := ?v53) (by simp only [List.getElem?_toArray, List.getElem?_cons_succ, List.getElem?_cons_zero]; rfl) (by kernel_rfl) (by kernel_rfl) (by kernel_rfl) (by kernel_rfl) (by exact fun _ _ _ h => h) (Or.inl ⟨by rfl, ?hy53⟩) (by assumption) ?rest53
    case hy53 => ((intro W hSw; (try dsimp only at hSw); go_simp); (try with_reducible rfl))
    (try simp only [Act.put, List.setIfInBounds_toArray, List.set_cons_zero, List.set_cons_succ])
    refine Till.take (i := 4) (v := ?v54) (by simp only [List.getElem?_toArray, List.getElem?_cons_succ, List.getElem?_cons_zero]; rfl) (by kernel_rfl) (by kernel_rfl) (by kernel_rfl) (by kernel_rfl) (by exact fun _ _ _ h => h) (Or.inl ⟨by rfl, ?hy54⟩) (by assumption) ?rest54
    case hy54 => ((intro W hSw; (try dsimp only at hSw); go_simp); (try with_reducible rfl))
    (try simp only [Act.put, List.setIfInBounds_toArray, List.set_cons_zero, List.set_cons_succ])
    refine Till.take (i := 5) (v := ?v55) (by simp only [List.getElem?_toArray, List.getElem?_cons_succ, List.getElem?_cons_zero]; rfl) (by kernel_rfl) (by kernel_rfl) (by kernel_rfl) (by kernel_rfl) (by exact fun _ _ _ h => h) (Or.inl ⟨by rfl, ?hy55⟩) (by assumption) ?rest55
    case hy55 => ((intro W hSw; (try dsimp only at hSw); go_simp); (try with_reducible rfl))
    (try simp only [Act.put, List.setIfInBounds_toArray, List.set_cons_zero, List.set_cons_succ])
    refine Till.take (i := 6) (v := ?v56) (by simp only [List.getElem?_toArray, List.getElem?_cons_succ, List.getElem?_cons_zero]; rfl) (by kernel_rfl) (by kernel_rfl) (by kernel_rfl) (by kernel_rfl) (by exact fun _ _ _ h => h) (Or.inl ⟨by rfl, ?hy56⟩) (by assumption) ?rest56
    case hy56 => ((intro W hSw; (try dsimp only at hSw); go_simp); (try with_reducible rfl))
    (try simp only [Act.put, List.setIfInBounds_toArray, List.set_cons_zero, List.set_cons_succ])
    refine Till.take (i := 7) (v := ?v57) (by simp only [List.getElem?_toArray, List.getElem?_cons_succ, List.getElem?_cons_zero]; rfl) (by kernel_rfl) (by kernel_rfl) (by kernel_rfl) (by kernel_rfl) (by exact fun _ _ _ h => h) (Or.inl ⟨by rfl, ?hy57⟩) (by assumption) ?rest57
    case hy57 => ((intro W hSw; (try dsimp only at hSw); go_simp); (try with_reducible rfl))
    (try simp only [Act.put, List.setIfInBounds_toArray, List.set_cons_zero, List.set_cons_succ])
    refine Till.take (i := 8) (v := ?v58) (by simp only [List.getElem?_toArray, List.getElem?_cons_succ, List.getElem?_cons_zero]; rfl) (by kernel_rfl) (by kernel_rfl) (by kernel_rfl) (by kernel_rfl) (by exact fun _ _ _ h => h) (Or.inl ⟨by rfl, ?hy58⟩) (by assumption) ?rest58
    case hy58 => ((intro W hSw; (try dsimp only at hSw); go_simp); (try with_reducible rfl))
    (try simp only [Act.put, List.setIfInBounds_toArray, List.set_cons_zero, List.set_cons_succ])
    refine Till.take (i := 9) (v := ?v59) (by simp only [List.getElem?_toArray, List.getElem?_cons_succ, List.getElem?_cons_zero]; rfl) (by kernel_rfl) (by kernel_rfl) (by kernel_rfl) (by kernel_rfl) (by exact fun _ _ _ h => h) (Or.inl ⟨by rfl, ?hy59⟩) (by assumption) ?rest59
    case hy59 => ((intro W hSw; (try dsimp only at hSw); go_simp); (try with_reducible rfl))
    (try simp only [Act.put, List.setIfInBounds_toArray, List.set_cons_zero, List.set_cons_succ])
    refine Till.one (i := 10) (by kernel_rfl) (by simp only [List.getElem?_toArray, List.getElem?_cons_succ, List.getElem?_cons_zero]; rfl) (fun K hK => ?_)
    go_simp
    refine hK.out _ _ ?_ ?_
    · (try dsimp only); exact ⟨(World.cell?_alloc_some _ _ _ (by rw [hHeld.1]; rfl)).trans hHeld.1, (World.cell?_alloc_some _ _ _ (by rw [hHeld.2]; rfl)).trans hHeld.2⟩
    clear hK K
    (try simp only [Act.put, List.setIfInBounds_toArray, List.set_cons_zero, List.set_cons_succ])
    refine Till.one (i := 11) (by kernel_rfl) (by simp only [List.getElem?_toArray, List.getElem?_cons_succ, List.getElem?_cons_zero]; rfl) (fun K hK => ?_)
    go_simp
    go_at_call 60
    refine (int_pick a len cap c 2 [0, 92] _ rfl rfl zd hl (by omega) (by omega) HC.out).mono ?_
    rintro e w5 ⟨y, hy, rfl, hc5, hg⟩
    (try go_wp2_with fail)
    refine hK.out _ _ ?_ ?_
    · (try dsimp only); exact ⟨(keep_cellB hg (by intro e; injection e with e; omega) (HD.out 0 _ rfl)).1, (keep_cellB hg (by intro e; injection e with e; omega) (HCE.out 4 _ rfl)).1⟩
    clear hK K
    (try simp only [Act.put, List.setIfInBounds_toArray, List.set_cons_zero, List.set_cons_succ])
    replace hHeld : w5.cell? ⟨D, 0, none⟩ = some (.slice (some ⟨g, off, none⟩) rs.length cp) ∧ w5.cell? ⟨g, off + k * 8 + 4, none⟩ = some (v4) := by exact ⟨(keep_cellB hg (by intro e; injection e with e; omega) (HD.out 0 _ rfl)).1, (keep_cellB hg (by intro e; injection e with e; omega) (HCE.out 4 _ rfl)).1⟩
    obtain ⟨x, rfl⟩ : ∃ x : UInt8, y = (x.toNat : Int) := by rcases (by simpa using hy : y = 0 ∨ y = 92) with rfl | rfl <;> first | exact ⟨0, rfl⟩ | exact ⟨92, rfl⟩
    have hw1 : IntKind.u8.wrap (x.toNat : Int) = (x.toNat : Int) := wrap8 x
    clear hy
    have HOW5 : Hid (OwnedR B rs[k] _ w5) := HOW.out.keep hg (fun b hb => by intro e; injection e with e; have := (HOW.out.lt b hb).1; omega)
    have HR5 : Hid (RowO B D _ rs w5) := HR.out.grown hg (by omega)
    have HX5 := Lib.hid (HX.out.grown hg (by intro e; injection e with e; omega))
    have HD5 := Lib.hid (HD.out.grown hg (by intro e; injection e with e; omega))
    have HG5 : Hid (w.grownBy w5 (some c)) := Lib.grownBy_trans HG.out hg
    have HC5 := Lib.hid hc5
    have HE5 : Hid (∀ i u, [Value.string rs[k].name, .int .i64 rs[k].kind, .int .i64 rs[k].size, .bool rs[k].little, v4, v5, v6, v7][i]? = some u → w5.cell? ⟨g, off + k * 8 + i, none⟩ = some u ∧ w5.frozen? ⟨g, off + k * 8 + i, none⟩ = false) := fun i u hu => keep_cellB hg (by intro e; injection e with e; omega) (HCE.out i u hu)
    have hgw5 : g < w5.heap.size := cell_lt (HE5.out 0 _ rfl).1
    have hBw5 : B ≤ w5.heap.size := by omega
    clear hg hc5
    have HOS := Lib.hid HOW5.out.slots.1
    refine Till.pure (i := 12) (v := ?v60) (by kernel_rfl) (by simp only [List.getElem?_toArray, List.getElem?_cons_succ, List.getElem?_cons_zero]; rfl) (Or.inl ⟨by rfl, ?hy60⟩) (by assumption) ?rest60
    case hy60 => ((intro W hSw; (try dsimp only at hSw); go_simp); (try with_reducible rfl))
    (try simp only [Act.put, List.setIfInBounds_toArray, List.set_cons_zero, List.set_cons_succ])
    refine Till.one (i := 13) (by kernel_rfl) (by simp only [List.getElem?_toArray, List.getElem?_cons_succ, List.getElem?_cons_zero]; rfl) (fun K hK => ?_)
    go_simp
    refine hK.out _ _ ?_ ?_
    · (try dsimp only); exact ⟨(World.cell?_alloc_some _ _ _ (by rw [hHeld.1]; rfl)).trans hHeld.1, (World.cell?_alloc_some _ _ _ (by rw [hHeld.2]; rfl)).trans hHeld.2⟩
    clear hK K
    (try simp only [Act.put, List.setIfInBounds_toArray, List.set_cons_zero, List.set_cons_succ])
    refine Till.one (i := 14) (by kernel_rfl) (by simp only [List.getElem?_toArray, List.getElem?_cons_succ, List.getElem?_cons_zero]; rfl) (fun K hK => ?_)
    refine step_pushF (f := bv) 22 5 (.int .u8 0) 1 Try.underlying22 info8 rfl (by rfl) (.tmp 91) (.tmp 96) (by rfl) B v4 rs[k].bytes x rfl w5 (by simp [Act.eval]) (by simp [Act.eval]) HOS.out (by have := HL.out; unfold maxLen; omega) (by have := HL.out; omega) hBw5 ?_
    intro v' w7 hown7 hg7 hb7
    have hnew := HOW5.out.push4 (fun b hb => (HBL.out b hb).1) hgw5 (e := rfl) hown7 hg7 hb7
    have hst := Lib.hid (bent_st (u := v') (i := 4) (k := k) hwB hcw hold.out HX5.out HD5.out HR5.out HC5.out HG5.out hkl (by decide) rfl (fun i u hu => (HE5.out i u hu).1) hg7 (fun b e => by rw [blks_four]; simp only [List.mem_append, blkO_mem]; simp [e]) ⟨hgB, hgD⟩ (fun b hb => ⟨(HOW5.out.lt b hb).1, (HBL.out b hb).2⟩) hnew)
    have hne7 : some g ≠ Value.ownBlock v4 := fun e => (HBL.out g (by rw [blks_four]; simp only [List.mem_append, blkO_mem]; simp [← e])).1 rfl
    have hneD : some D ≠ Value.ownBlock v4 := fun e => by have := (HBL.out D (by rw [blks_four]; simp only [List.mem_append, blkO_mem]; simp [← e])).2; omega
    obtain ⟨cz, fz⟩ := keep_cellB hg7 hne7 (HE5.out 4 _ rfl)
    obtain ⟨cd, -⟩ := keep_cellB hg7 hneD (HD5.out 0 _ rfl)
    obtain ⟨x', c', rfl, -⟩ := own_row (f := bv) hown7
    clear hown7 hg7 hb7 hnew hne7 hneD
    obtain ⟨nl, hnl⟩ : ∃ nl, (rs[k].bytes ++ [x]).length = nl := ⟨_, rfl⟩
    rw [hnl] at hst ⊢
    clear hnl
    refine hK.out _ _ ?_ ?_
    · (try dsimp only); exact ⟨cd, cz⟩
    clear hK K
    (try simp only [Act.put, List.setIfInBounds_toArray, List.set_cons_zero, List.set_cons_succ])
    have hHeld7 : w7.cell? ⟨D, 0, none⟩ = some (.slice (some ⟨g, off, none⟩) rs.length cp) ∧ w7.cell? ⟨g, off + k * 8 + 4, none⟩ = some v4 := ⟨cd, cz⟩
    refine Till.pure (i := 15) (v := ?v61) (by kernel_rfl) (by simp only [List.getElem?_toArray, List.getElem?_cons_succ, List.getElem?_cons_zero]; rfl) (Or.inl ⟨by rfl, ?hy61⟩) (by assumption) ?rest61
    case hy61 => ((intro W hSw; (try dsimp only at hSw); go_simp); (try with_reducible rfl))
    (try simp only [Act.put, List.setIfInBounds_toArray, List.set_cons_zero, List.set_cons_succ])
    refine Till.pure (i := 16) (v := ?v62) (by kernel_rfl) (by simp only [List.getElem?_toArray, List.getElem?_cons_succ, List.getElem?_cons_zero]; rfl) (Or.inl ⟨by rfl, ?hy62⟩) (by assumption) ?rest62
    case hy62 => ((intro W hSw; (try dsimp only at hSw); go_simp); (try with_reducible rfl))
    (try simp only [Act.put, List.setIfInBounds_toArray, List.set_cons_zero, List.set_cons_succ])
    refine Till.last (by kernel_rfl) (by kernel_rfl) (by simp only [List.getElem?_toArray, List.getElem?_cons_succ, List.getElem?_cons_zero]; rfl) (fun K hK => ?_)
    go_simp
    refine hK.out _ _ ?_
    clear hK K
    clear HOS cz fz cd hHeld7
    have HBG : Hid (∀ r ∈ rs.set k ⟨rs[k].name, rs[k].kind, rs[k].size, rs[k].little, rs[k].bytes ++ [x], rs[k].names, rs[k].tags, rs[k].kids⟩, Short r ∧ Spelt r) := bent_all HM.out ⟨by have := HL.out; unfold Short; simp; omega, (HM.out _ (List.getElem_mem hkl)).2⟩
    generalize w7.setCell ⟨g, off + k * 8 + 4, none⟩ (.slice x' nl c') = wz at hst ⊢
    clear HX5 HD5 HR5 HC5 HG5 HE5 HOW5 HX HD HR HC HG HCE HBL HOW hHeld
    obtain ⟨hX9, hD9, hR9, hC9, hG9⟩ := hst.out
    obtain ⟨z0, t0⟩ := hX9 0 _ rfl
    obtain ⟨d0, -⟩ := hD9 0 _ rfl
    have HRF := Lib.hid ((hR9.grown (grown_set (grown_refl _ w.heap.size) 0 (.slice (some ⟨g, off, none⟩) rs.length cp)) hwB).more (base' := w.heap.size) (by omega))
    have HCF := Lib.hid (hC9.put (q := w.heap.size) (i := 0) (v := .slice (some ⟨g, off, none⟩) rs.length cp) (by omega) (fun b off ha hl => by have := hold.out b off ha hl; omega))
    have HGF := Lib.hid (grown_put (q := w.heap.size) (i := 0) (v := .slice (some ⟨g, off, none⟩) rs.length cp) hG9 (Nat.le_refl _))
    clear hX9 hD9 hR9 hC9 hG9 hst
    go_wp2
    (try simp only [Exit.inBlock, Exit.then])
    refine bodyPost_ret (v := .agg #[.slice (some ⟨g, off, none⟩) rs.length cp]) ?_ rfl ?_
    · simp [results, Try.results45, go_sem, z0]
    · exact ⟨rs.set k ⟨rs[k].name, rs[k].kind, rs[k].size, rs[k].little, rs[k].bytes ++ [x], rs[k].names, rs[k].tags, rs[k].kids⟩, _, cp, by rw [List.length_set], by rw [List.length_set]; omega, HBG.out, by rw [List.length_set]; exact HRF.out, HCF.out, HGF.out⟩
  · go_upto_region 17 with fail
    obtain ⟨cs, hown, hcell, hblk, ⟨hgB, hgD⟩, -⟩ := HR.out.parts hkl
    have HOW := Lib.hid hown
    obtain ⟨v4, v5, v6, v7, rfl, -⟩ := hown
    have HCE := Lib.hid hcell
    have HBL := Lib.hid hblk
    clear hcell hblk
    have k0' : (0 : Int) ≤ (k : Int) := by omega
    have HL := Lib.hid (H64.out k hkl)
    have c7 := (HCE.out 5 _ rfl).1
    have bx := (HD.out 0 _ rfl).1
    refine Till.start (n := 16) (S := fun W => W.cell? ⟨D, 0, none⟩ = some (.slice (some ⟨g, off, none⟩) rs.length cp) ∧ W.cell? ⟨g, off + k * 8 + 5, none⟩ = some (v5)) (by kernel_rfl) ?_ (fun hHeld => ?_)
    · (try dsimp only); exact ⟨bx, c7⟩
    generalize hzd : z2.drew = zd at hHeld ⊢
    have hzg : z2.grownBy zd none := by rw [← hzd]; exact ⟨rfl, rfl, rfl, Nat.le_refl _, fun k _ _ => rfl⟩
    replace HX := Lib.hid (HX.out.grown hzg (by simp))
    replace HD := Lib.hid (HD.out.grown hzg (by simp))
    replace HC := Lib.hid (HC.out.grown hzg (by simp) (fun b off _ _ => by simp))
    replace HR := Lib.hid (HR.out.keep hzg (fun b _ _ => by simp))
    replace HOW := Lib.hid (HOW.out.keep hzg (fun b _ => by simp))
    replace HG := Lib.hid (grown_far HG.out hzg (by simp))
    replace HCE : Hid (∀ i u, [Value.string rs[k].name, .int .i64 rs[k].kind, .int .i64 rs[k].size, .bool rs[k].little, v4, v5, v6, v7][i]? = some u → zd.cell? ⟨g, off + k * 8 + i, none⟩ = some u ∧ zd.frozen? ⟨g, off + k * 8 + i, none⟩ = false) := fun i u hu => keep_cellB hzg (by simp) (HCE.out i u hu)
    clear hzd hzg bx c7
    refine Till.take (i := 0) (v := ?v63) (by simp only [List.getElem?_toArray, List.getElem?_cons_zero]; rfl) (by kernel_rfl) (by kernel_rfl) (by kernel_rfl) (by kernel_rfl) (by exact fun _ _ _ h => h) (Or.inl ⟨by rfl, ?hy63⟩) (by assumption) ?rest63
    case hy63 => ((intro W hSw; (try dsimp only at hSw); go_simp); (try with_reducible rfl))
    (try simp only [Act.put, List.setIfInBounds_toArray, List.set_cons_zero, List.set_cons_succ])
    refine Till.take (i := 1) (v := ?v64) (by simp only [List.getElem?_toArray, List.getElem?_cons_succ, List.getElem?_cons_zero]; rfl) (by kernel_rfl) (by kernel_rfl) (by kernel_rfl) (by kernel_rfl) (by exact fun _ _ _ h => h) (Or.inl ⟨by rfl, ?hy64⟩) (by assumption) ?rest64
    case hy64 => ((intro W hSw; (try dsimp only at hSw); go_simp); (try with_reducible rfl))
    (try simp only [Act.put, List.setIfInBounds_toArray, List.set_cons_zero, List.set_cons_succ])
    refine Till.take (i := 2) (v := ?v65) (by simp only [List.getElem?_toArray, List.getElem?_cons_succ, List.getElem?_cons_zero]; rfl) (by kernel_rfl) (by kernel_rfl) (by kernel_rfl) (by kernel_rfl) (by exact fun _ _ _ h => h) (Or.inl ⟨by rfl, ?hy65⟩) (by assumption) ?rest65
    case hy65 => ((intro W hSw; (try dsimp only at hSw); go_simp); (try with_reducible rfl))
    (try simp only [Act.put, List.setIfInBounds_toArray, List.set_cons_zero, List.set_cons_succ])
    refine Till.take (i := 3) (v := ?v66) (by simp only [List.getElem?_toArray, List.getElem?_cons_succ, List.getElem?_cons_zero]; rfl) (by kernel_rfl) (by kernel_rfl) (by kernel_rfl) (by kernel_rfl) (by exact fun _ _ _ h => h) (Or.inl ⟨by rfl, ?hy66⟩) (by assumption) ?rest66
    case hy66 => ((intro W hSw; (try dsimp only at hSw); go_simp); (try with_reducible rfl))
    (try simp only [Act.put, List.setIfInBounds_toArray, List.set_cons_zero, List.set_cons_succ])
    refine Till.take (i := 4) (v := ?v67) (by simp only [List.getElem?_toArray, List.getElem?_cons_succ, List.getElem?_cons_zero]; rfl) (by kernel_rfl) (by kernel_rfl) (by kernel_rfl) (by kernel_rfl) (by exact fun _ _ _ h => h) (Or.inl ⟨by rfl, ?hy67⟩) (by assumption) ?rest67
    case hy67 => ((intro W hSw; (try dsimp only at hSw); go_simp); (try with_reducible rfl))
    (try simp only [Act.put, List.setIfInBounds_toArray, List.set_cons_zero, List.set_cons_succ])
    refine Till.take (i := 5) (v := ?v68) (by simp only [List.getElem?_toArray, List.getElem?_cons_succ, List.getElem?_cons_zero]; rfl) (by kernel_rfl) (by kernel_rfl) (by kernel_rfl) (by kernel_rfl) (by exact fun _ _ _ h => h) (Or.inl ⟨by rfl, ?hy68⟩) (by assumption) ?rest68
    case hy68 => ((intro W hSw; (try dsimp only at hSw); go_simp); (try with_reducible rfl))
    (try simp only [Act.put, List.setIfInBounds_toArray, List.set_cons_zero, List.set_cons_succ])
    refine Till.take (i := 6) (v := ?v69) (by simp only [List.getElem?_toArray, List.getElem?_cons_succ, List.getElem?_cons_zero]; rfl) (by kernel_rfl) (by kernel_rfl) (by kernel_rfl) (by kernel_rfl) (by exact fun _ _ _ h => h) (Or.inl ⟨by rfl, ?hy69⟩) (by assumption) ?rest69
    case hy69 => ((intro W hSw; (try dsimp only at hSw); go_simp); (try with_reducible rfl))
    (try simp only [Act.put, List.setIfInBounds_toArray, List.set_cons_zero, List.set_cons_succ])
    refine Till.take (i := 7) (v := ?v70) (by simp only [List.getElem?_toArray, List.getElem?_cons_succ, List.getElem?_cons_zero]; rfl) (by kernel_rfl) (by kernel_rfl) (by kernel_rfl) (by kernel_rfl) (by exact fun _ _ _ h => h) (Or.inl ⟨by rfl, ?hy70⟩) (by assumption) ?rest70
    case hy70 => ((intro W hSw; (try dsimp only at hSw); go_simp); (try with_reducible rfl))
    (try simp only [Act.put, List.setIfInBounds_toArray, List.set_cons_zero, List.set_cons_succ])
    refine Till.take (i := 8) (v := ?v71) (by simp only [List.getElem?_toArray, List.getElem?_cons_succ, List.getElem?_cons_zero]; rfl) (by kernel_rfl) (by kernel_rfl) (by kernel_rfl) (by kernel_rfl) (by exact fun _ _ _ h => h) (Or.inl ⟨by rfl, ?hy71⟩) (by assumption) ?rest71
    case hy71 => ((intro W hSw; (try dsimp only at hSw); go_simp); (try with_reducible rfl))
    (try simp only [Act.put, List.setIfInBounds_toArray, List.set_cons_zero, List.set_cons_succ])
    refine Till.take (i := 9) (v := ?v72) (by simp only [List.getElem?_toArray, List.getElem?_cons_succ, List.getElem?_cons_zero]; rfl) (by kernel_rfl) (by kernel_rfl) (by kernel_rfl) (by kernel_rfl) (by exact fun _ _ _ h => h) (Or.inl ⟨by rfl, ?hy72⟩) (by assumption) ?rest72
    case hy72 => ((intro W hSw; (try dsimp only at hSw); go_simp); (try with_reducible rfl))
    (try simp only [Act.put, List.setIfInBounds_toArray, List.set_cons_zero, List.set_cons_succ])
    refine Till.one (i := 10) (by kernel_rfl) (by simp only [List.getElem?_toArray, List.getElem?_cons_succ, List.getElem?_cons_zero]; rfl) (fun K hK => ?_)
    go_simp
    refine hK.out _ _ ?_ ?_
    · (try dsimp only); exact ⟨(World.cell?_alloc_some _ _ _ (by rw [hHeld.1]; rfl)).trans hHeld.1, (World.cell?_alloc_some _ _ _ (by rw [hHeld.2]; rfl)).trans hHeld.2⟩
    clear hK K
    (try simp only [Act.put, List.setIfInBounds_toArray, List.set_cons_zero, List.set_cons_succ])
    refine Till.one (i := 11) (by kernel_rfl) (by simp only [List.getElem?_toArray, List.getElem?_cons_succ, List.getElem?_cons_zero]; rfl) (fun K hK => ?_)
    go_simp
    go_at_call 65
    refine (str_pick a len cap c 3 [⟨#[112, 49]⟩, ⟨#[81]⟩, ⟨#[122]⟩] _ rfl rfl zd hl (by omega) (by omega) HC.out).mono ?_
    rintro e w5 ⟨y, hy, rfl, hc5, hg⟩
    (try go_wp2_with fail)
    refine hK.out _ _ ?_ ?_
    · (try dsimp only); exact ⟨(keep_cellB hg (by intro e; injection e with e; omega) (HD.out 0 _ rfl)).1, (keep_cellB hg (by intro e; injection e with e; omega) (HCE.out 5 _ rfl)).1⟩
    clear hK K
    (try simp only [Act.put, List.setIfInBounds_toArray, List.set_cons_zero, List.set_cons_succ])
    replace hHeld : w5.cell? ⟨D, 0, none⟩ = some (.slice (some ⟨g, off, none⟩) rs.length cp) ∧ w5.cell? ⟨g, off + k * 8 + 5, none⟩ = some (v5) := by exact ⟨(keep_cellB hg (by intro e; injection e with e; omega) (HD.out 0 _ rfl)).1, (keep_cellB hg (by intro e; injection e with e; omega) (HCE.out 5 _ rfl)).1⟩
    have hys : y.size ≤ 1048576 := by rcases (by simpa using hy : y = ⟨#[112, 49]⟩ ∨ y = ⟨#[81]⟩ ∨ y = ⟨#[122]⟩) with rfl | rfl | rfl <;> decide
    have HYS := Lib.hid hys
    clear hy hys
    have HOW5 : Hid (OwnedR B rs[k] _ w5) := HOW.out.keep hg (fun b hb => by intro e; injection e with e; have := (HOW.out.lt b hb).1; omega)
    have HR5 : Hid (RowO B D _ rs w5) := HR.out.grown hg (by omega)
    have HX5 := Lib.hid (HX.out.grown hg (by intro e; injection e with e; omega))
    have HD5 := Lib.hid (HD.out.grown hg (by intro e; injection e with e; omega))
    have HG5 : Hid (w.grownBy w5 (some c)) := Lib.grownBy_trans HG.out hg
    have HC5 := Lib.hid hc5
    have HE5 : Hid (∀ i u, [Value.string rs[k].name, .int .i64 rs[k].kind, .int .i64 rs[k].size, .bool rs[k].little, v4, v5, v6, v7][i]? = some u → w5.cell? ⟨g, off + k * 8 + i, none⟩ = some u ∧ w5.frozen? ⟨g, off + k * 8 + i, none⟩ = false) := fun i u hu => keep_cellB hg (by intro e; injection e with e; omega) (HCE.out i u hu)
    have hgw5 : g < w5.heap.size := cell_lt (HE5.out 0 _ rfl).1
    have hBw5 : B ≤ w5.heap.size := by omega
    clear hg hc5
    have HOS := Lib.hid HOW5.out.slots.2.1
    refine Till.one (i := 12) (by kernel_rfl) (by simp only [List.getElem?_toArray, List.getElem?_cons_succ, List.getElem?_cons_zero]; rfl) (fun K hK => ?_)
    go_simp
    refine hK.out _ _ ?_ ?_
    · (try dsimp only); exact ⟨(World.cell?_alloc_some _ _ _ (by rw [hHeld.1]; rfl)).trans hHeld.1, (World.cell?_alloc_some _ _ _ (by rw [hHeld.2]; rfl)).trans hHeld.2⟩
    clear hK K
    (try simp only [Act.put, List.setIfInBounds_toArray, List.set_cons_zero, List.set_cons_succ])
    refine Till.one (i := 13) (by kernel_rfl) (by simp only [List.getElem?_toArray, List.getElem?_cons_succ, List.getElem?_cons_zero]; rfl) (fun K hK => ?_)
    refine step_pushF (f := Value.string) 41 9 (.string ⟨#[]⟩) 16 Try.underlying41 infoStr rfl (by rfl) (.tmp 110) (.tmp 114) (by rfl) B v5 rs[k].names y rfl w5 (by simp [Act.eval]) (by simp [Act.eval]) HOS.out (by have := HL.out; unfold maxLen; omega) (by have := HL.out; omega) hBw5 ?_
    intro v' w7 hown7 hg7 hb7
    have hnew := HOW5.out.push5 (fun b hb => (HBL.out b hb).1) hgw5 (e := rfl) hown7 hg7 hb7
    have hst := Lib.hid (bent_st (u := v') (i := 5) (k := k) hwB hcw hold.out HX5.out HD5.out HR5.out HC5.out HG5.out hkl (by decide) rfl (fun i u hu => (HE5.out i u hu).1) hg7 (fun b e => by rw [blks_four]; simp only [List.mem_append, blkO_mem]; simp [e]) ⟨hgB, hgD⟩ (fun b hb => ⟨(HOW5.out.lt b hb).1, (HBL.out b hb).2⟩) hnew)
    have hne7 : some g ≠ Value.ownBlock v5 := fun e => (HBL.out g (by rw [blks_four]; simp only [List.mem_append, blkO_mem]; simp [← e])).1 rfl
    have hneD : some D ≠ Value.ownBlock v5 := fun e => by have := (HBL.out D (by rw [blks_four]; simp only [List.mem_append, blkO_mem]; simp [← e])).2; omega
    obtain ⟨cz, fz⟩ := keep_cellB hg7 hne7 (HE5.out 5 _ rfl)
    obtain ⟨cd, -⟩ := keep_cellB hg7 hneD (HD5.out 0 _ rfl)
    obtain ⟨x', c', rfl, -⟩ := own_row (f := Value.string) hown7
    clear hown7 hg7 hb7 hnew hne7 hneD
    obtain ⟨nl, hnl⟩ : ∃ nl, (rs[k].names ++ [y]).length = nl := ⟨_, rfl⟩
    rw [hnl] at hst ⊢
    clear hnl
    refine hK.out _ _ ?_ ?_
    · (try dsimp only); exact ⟨cd, cz⟩
    clear hK K
    (try simp only [Act.put, List.setIfInBounds_toArray, List.set_cons_zero, List.set_cons_succ])
    have hHeld7 : w7.cell? ⟨D, 0, none⟩ = some (.slice (some ⟨g, off, none⟩) rs.length cp) ∧ w7.cell? ⟨g, off + k * 8 + 5, none⟩ = some v5 := ⟨cd, cz⟩
    refine Till.pure (i := 14) (v := ?v73) (by kernel_rfl) (by simp only [List.getElem?_toArray, List.getElem?_cons_succ, List.getElem?_cons_zero]; rfl) (Or.inl ⟨by rfl, ?hy73⟩) (by assumption) ?rest73
    case hy73 => ((intro W hSw; (try dsimp only at hSw); go_simp); (try with_reducible rfl))
    (try simp only [Act.put, List.setIfInBounds_toArray, List.set_cons_zero, List.set_cons_succ])
    refine Till.pure (i := 15) (v := ?v74) (by kernel_rfl) (by simp only [List.getElem?_toArray, List.getElem?_cons_succ, List.getElem?_cons_zero]; rfl) (Or.inl ⟨by rfl, ?hy74⟩) (by assumption) ?rest74
    case hy74 => ((intro W hSw; (try dsimp only at hSw); go_simp); (try with_reducible rfl))
    (try simp only [Act.put, List.setIfInBounds_toArray, List.set_cons_zero, List.set_cons_succ])
    refine Till.last (by kernel_rfl) (by kernel_rfl) (by simp only [List.getElem?_toArray, List.getElem?_cons_succ, List.getElem?_cons_zero]; rfl) (fun K hK => ?_)
    go_simp
    refine hK.out _ _ ?_
    clear hK K
    clear HOS cz fz cd hHeld7
    have HBG : Hid (∀ r ∈ rs.set k ⟨rs[k].name, rs[k].kind, rs[k].size, rs[k].little, rs[k].bytes, rs[k].names ++ [y], rs[k].tags, rs[k].kids⟩, Short r ∧ Spelt r) := bent_all HM.out ⟨by have := HL.out; unfold Short; simp; omega, ⟨(HM.out _ (List.getElem_mem hkl)).2.1, fun s hs => by rcases List.mem_append.1 hs with h | h; exact (HM.out _ (List.getElem_mem hkl)).2.2 s h; simp at h; rw [h]; exact HYS.out⟩⟩
    generalize w7.setCell ⟨g, off + k * 8 + 5, none⟩ (.slice x' nl c') = wz at hst ⊢
    clear HX5 HD5 HR5 HC5 HG5 HE5 HOW5 HX HD HR HC HG HCE HBL HOW hHeld
    obtain ⟨hX9, hD9, hR9, hC9, hG9⟩ := hst.out
    obtain ⟨z0, t0⟩ := hX9 0 _ rfl
    obtain ⟨d0, -⟩ := hD9 0 _ rfl
    have HRF := Lib.hid ((hR9.grown (grown_set (grown_refl _ w.heap.size) 0 (.slice (some ⟨g, off, none⟩) rs.length cp)) hwB).more (base' := w.heap.size) (by omega))
    have HCF := Lib.hid (hC9.put (q := w.heap.size) (i := 0) (v := .slice (some ⟨g, off, none⟩) rs.length cp) (by omega) (fun b off ha hl => by have := hold.out b off ha hl; omega))
    have HGF := Lib.hid (grown_put (q := w.heap.size) (i := 0) (v := .slice (some ⟨g, off, none⟩) rs.length cp) hG9 (Nat.le_refl _))
    clear hX9 hD9 hR9 hC9 hG9 hst
    go_wp2
    (try simp only [Exit.inBlock, Exit.then])
    refine bodyPost_ret (v := .agg #[.slice (some ⟨g, off, none⟩) rs.length cp]) ?_ rfl ?_
    · simp [results, Try.results45, go_sem, z0]
    · exact ⟨rs.set k ⟨rs[k].name, rs[k].kind, rs[k].size, rs[k].little, rs[k].bytes, rs[k].names ++ [y], rs[k].tags, rs[k].kids⟩, _, cp, by rw [List.length_set], by rw [List.length_set]; omega, HBG.out, by rw [List.length_set]; exact HRF.out, HCF.out, HGF.out⟩
  · go_upto_region 19 with fail
    obtain ⟨cs, hown, hcell, hblk, ⟨hgB, hgD⟩, -⟩ := HR.out.parts hkl
    have HOW := Lib.hid hown
    obtain ⟨v4, v5, v6, v7, rfl, -⟩ := hown
    have HCE := Lib.hid hcell
    have HBL := Lib.hid hblk
    clear hcell hblk
    have k0' : (0 : Int) ≤ (k : Int) := by omega
    have HL := Lib.hid (H64.out k hkl)
    have c7 := (HCE.out 6 _ rfl).1
    have bx := (HD.out 0 _ rfl).1
    refine Till.start (n := 16) (S := fun W => W.cell? ⟨D, 0, none⟩ = some (.slice (some ⟨g, off, none⟩) rs.length cp) ∧ W.cell? ⟨g, off + k * 8 + 6, none⟩ = some (v6)) (by kernel_rfl) ?_ (fun hHeld => ?_)
    · (try dsimp only); exact ⟨bx, c7⟩
    generalize hzd : z2.drew = zd at hHeld ⊢
    have hzg : z2.grownBy zd none := by rw [← hzd]; exact ⟨rfl, rfl, rfl, Nat.le_refl _, fun k _ _ => rfl⟩
    replace HX := Lib.hid (HX.out.grown hzg (by simp))
    replace HD := Lib.hid (HD.out.grown hzg (by simp))
    replace HC := Lib.hid (HC.out.grown hzg (by simp) (fun b off _ _ => by simp))
    replace HR := Lib.hid (HR.out.keep hzg (fun b _ _ => by simp))
    replace HOW := Lib.hid (HOW.out.keep hzg (fun b _ => by simp))
    replace HG := Lib.hid (grown_far HG.out hzg (by simp))
    replace HCE : Hid (∀ i u, [Value.string rs[k].name, .int .i64 rs[k].kind, .int .i64 rs[k].size, .bool rs[k].little, v4, v5, v6, v7][i]? = some u → zd.cell? ⟨g, off + k * 8 + i, none⟩ = some u ∧ zd.frozen? ⟨g, off + k * 8 + i, none⟩ = false) := fun i u hu => keep_cellB hzg (by simp) (HCE.out i u hu)
    clear hzd hzg bx c7
    refine Till.take (i := 0) (v := ?v75) (by simp only [List.getElem?_toArray, List.getElem?_cons_zero]; rfl) (by kernel_rfl) (by kernel_rfl) (by kernel_rfl) (by kernel_rfl) (by exact fun _ _ _ h => h) (Or.inl ⟨by rfl, ?hy75⟩) (by assumption) ?rest75
    case hy75 => ((intro W hSw; (try dsimp only at hSw); go_simp); (try with_reducible rfl))
    (try simp only [Act.put, List.setIfInBounds_toArray, List.set_cons_zero, List.set_cons_succ])
    refine Till.take (i := 1) (v := ?v76) (by simp only [List.getElem?_toArray, List.getElem?_cons_succ, List.getElem?_cons_zero]; rfl) (by kernel_rfl) (by kernel_rfl) (by kernel_rfl) (by kernel_rfl) (by exact fun _ _ _ h => h) (Or.inl ⟨by rfl, ?hy76⟩) (by assumption) ?rest76
    case hy76 => ((intro W hSw; (try dsimp only at hSw); go_simp); (try with_reducible rfl))
    (try simp only [Act.put, List.setIfInBounds_toArray, List.set_cons_zero, List.set_cons_succ])
    refine Till.take (i := 2) (v := ?v77) (by simp only [List.getElem?_toArray, List.getElem?_cons_succ, List.getElem?_cons_zero]; rfl) (by kernel_rfl) (by kernel_rfl) (by kernel_rfl) (by kernel_rfl) (by exact fun _ _ _ h => h) (Or.inl ⟨by rfl, ?hy77⟩) (by assumption) ?rest77
    case hy77 => ((intro W hSw; (try dsimp only at hSw); go_simp); (try with_reducible rfl))
    (try simp only [Act.put, List.setIfInBounds_toArray, List.set_cons_zero, List.set_cons_succ])
    refine Till.take (i := 3) (v := ?v78) (by simp only [List.getElem?_toArray, List.getElem?_cons_succ, List.getElem?_cons_zero]; rfl) (by kernel_rfl) (by kernel_rfl) (by kernel_rfl) (by kernel_rfl) (by exact fun _ _ _ h => h) (Or.inl ⟨by rfl, ?hy78⟩) (by assumption) ?rest78
    case hy78 => ((intro W hSw; (try dsimp only at hSw); go_simp); (try with_reducible rfl))
    (try simp only [Act.put, List.setIfInBounds_toArray, List.set_cons_zero, List.set_cons_succ])
    refine Till.take (i := 4) (v := ?v79) (by simp only [List.getElem?_toArray, List.getElem?_cons_succ, List.getElem?_cons_zero]; rfl) (by kernel_rfl) (by kernel_rfl) (by kernel_rfl) (by kernel_rfl) (by exact fun _ _ _ h => h) (Or.inl ⟨by rfl, ?hy79⟩) (by assumption) ?rest79
    case hy79 => ((intro W hSw; (try dsimp only at hSw); go_simp); (try with_reducible rfl))
    (try simp only [Act.put, List.setIfInBounds_toArray, List.set_cons_zero, List.set_cons_succ])
    refine Till.take (i := 5) (v := ?v80) (by simp only [List.getElem?_toArray, List.getElem?_cons_succ, List.getElem?_cons_zero]; rfl) (by kernel_rfl) (by kernel_rfl) (by kernel_rfl) (by kernel_rfl) (by exact fun _ _ _ h => h) (Or.inl ⟨by rfl, ?hy80⟩) (by assumption) ?rest80
    case hy80 => ((intro W hSw; (try dsimp only at hSw); go_simp); (try with_reducible rfl))
    (try simp only [Act.put, List.setIfInBounds_toArray, List.set_cons_zero, List.set_cons_succ])
    refine Till.take (i := 6) (v := ?v81) (by simp only [List.getElem?_toArray, List.getElem?_cons_succ, List.getElem?_cons_zero]; rfl) (by kernel_rfl) (by kernel_rfl) (by kernel_rfl) (by kernel_rfl) (by exact fun _ _ _ h => h) (Or.inl ⟨by rfl, ?hy81⟩) (by assumption) ?rest81
    case hy81 => ((intro W hSw; (try dsimp only at hSw); go_simp); (try with_reducible rfl))
    (try simp only [Act.put, List.setIfInBounds_toArray, List.set_cons_zero, List.set_cons_succ])
    refine Till.take (i := 7) (v := ?v82) (by simp only [List.getElem?_toArray, List.getElem?_cons_succ, List.getElem?_cons_zero]; rfl) (by kernel_rfl) (by kernel_rfl) (by kernel_rfl) (by kernel_rfl) (by exact fun _ _ _ h => h) (Or.inl ⟨by rfl, ?hy82⟩) (by assumption) ?rest82
    case hy82 => ((intro W hSw; (try dsimp only at hSw); go_simp); (try with_reducible rfl))
    (try simp only [Act.put, List.setIfInBounds_toArray, List.set_cons_zero, List.set_cons_succ])
    refine Till.take (i := 8) (v := ?v83) (by simp only [List.getElem?_toArray, List.getElem?_cons_succ, List.getElem?_cons_zero]; rfl) (by kernel_rfl) (by kernel_rfl) (by kernel_rfl) (by kernel_rfl) (by exact fun _ _ _ h => h) (Or.inl ⟨by rfl, ?hy83⟩) (by assumption) ?rest83
    case hy83 => ((intro W hSw; (try dsimp only at hSw); go_simp); (try with_reducible rfl))
    (try simp only [Act.put, List.setIfInBounds_toArray, List.set_cons_zero, List.set_cons_succ])
    refine Till.take (i := 9) (v := ?v84) (by simp only [List.getElem?_toArray, List.getElem?_cons_succ, List.getElem?_cons_zero]; rfl) (by kernel_rfl) (by kernel_rfl) (by kernel_rfl) (by kernel_rfl) (by exact fun _ _ _ h => h) (Or.inl ⟨by rfl, ?hy84⟩) (by assumption) ?rest84
    case hy84 => ((intro W hSw; (try dsimp only at hSw); go_simp); (try with_reducible rfl))
    (try simp only [Act.put, List.setIfInBounds_toArray, List.set_cons_zero, List.set_cons_succ])
    refine Till.one (i := 10) (by kernel_rfl) (by simp only [List.getElem?_toArray, List.getElem?_cons_succ, List.getElem?_cons_zero]; rfl) (fun K hK => ?_)
    go_simp
    refine hK.out _ _ ?_ ?_
    · (try dsimp only); exact ⟨(World.cell?_alloc_some _ _ _ (by rw [hHeld.1]; rfl)).trans hHeld.1, (World.cell?_alloc_some _ _ _ (by rw [hHeld.2]; rfl)).trans hHeld.2⟩
    clear hK K
    (try simp only [Act.put, List.setIfInBounds_toArray, List.set_cons_zero, List.set_cons_succ])
    refine Till.one (i := 11) (by kernel_rfl) (by simp only [List.getElem?_toArray, List.getElem?_cons_succ, List.getElem?_cons_zero]; rfl) (fun K hK => ?_)
    go_simp
    go_at_call 60
    refine (int_pick a len cap c 5 [-1, 0, 5, 256, 70000] _ rfl rfl zd hl (by omega) (by omega) HC.out).mono ?_
    rintro e w5 ⟨y, hy, rfl, hc5, hg⟩
    (try go_wp2_with fail)
    refine hK.out _ _ ?_ ?_
    · (try dsimp only); exact ⟨(keep_cellB hg (by intro e; injection e with e; omega) (HD.out 0 _ rfl)).1, (keep_cellB hg (by intro e; injection e with e; omega) (HCE.out 6 _ rfl)).1⟩
    clear hK K
    (try simp only [Act.put, List.setIfInBounds_toArray, List.set_cons_zero, List.set_cons_succ])
    replace hHeld : w5.cell? ⟨D, 0, none⟩ = some (.slice (some ⟨g, off, none⟩) rs.length cp) ∧ w5.cell? ⟨g, off + k * 8 + 6, none⟩ = some (v6) := by exact ⟨(keep_cellB hg (by intro e; injection e with e; omega) (HD.out 0 _ rfl)).1, (keep_cellB hg (by intro e; injection e with e; omega) (HCE.out 6 _ rfl)).1⟩
    clear hy
    have HOW5 : Hid (OwnedR B rs[k] _ w5) := HOW.out.keep hg (fun b hb => by intro e; injection e with e; have := (HOW.out.lt b hb).1; omega)
    have HR5 : Hid (RowO B D _ rs w5) := HR.out.grown hg (by omega)
    have HX5 := Lib.hid (HX.out.grown hg (by intro e; injection e with e; omega))
    have HD5 := Lib.hid (HD.out.grown hg (by intro e; injection e with e; omega))
    have HG5 : Hid (w.grownBy w5 (some c)) := Lib.grownBy_trans HG.out hg
    have HC5 := Lib.hid hc5
    have HE5 : Hid (∀ i u, [Value.string rs[k].name, .int .i64 rs[k].kind, .int .i64 rs[k].size, .bool rs[k].little, v4, v5, v6, v7][i]? = some u → w5.cell? ⟨g, off + k * 8 + i, none⟩ = some u ∧ w5.frozen? ⟨g, off + k * 8 + i, none⟩ = false) := fun i u hu => keep_cellB hg (by intro e; injection e with e; omega) (HCE.out i u hu)
    have hgw5 : g < w5.heap.size := cell_lt (HE5.out 0 _ rfl).1
    have hBw5 : B ≤ w5.heap.size := by omega
    clear hg hc5
    have HOS := Lib.hid HOW5.out.slots.2.2.1
    refine Till.one (i := 12) (by kernel_rfl) (by simp only [List.getElem?_toArray, List.getElem?_cons_succ, List.getElem?_cons_zero]; rfl) (fun K hK => ?_)
    go_simp
    refine hK.out _ _ ?_ ?_
    · (try dsimp only); exact ⟨(World.cell?_alloc_some _ _ _ (by rw [hHeld.1]; rfl)).trans hHeld.1, (World.cell?_alloc_some _ _ _ (by rw [hHeld.2]; rfl)).trans hHeld.2⟩
    clear hK K
    (try simp only [Act.put, List.setIfInBounds_toArray, List.set_cons_zero, List.set_cons_succ])
    refine Till.one (i := 13) (by kernel_rfl) (by simp only [List.getElem?_toArray, List.getElem?_cons_succ, List.getElem?_cons_zero]; rfl) (fun K hK => ?_)
    refine step_pushF (f := Value.int .i64) 42 3 (.int .i64 0) 8 Try.underlying42 infoInt rfl (by rfl) (.tmp 128) (.tmp 132) (by rfl) B v6 rs[k].tags y rfl w5 (by simp [Act.eval]) (by simp [Act.eval]) HOS.out (by have := HL.out; unfold maxLen; omega) (by have := HL.out; omega) hBw5 ?_
    intro v' w7 hown7 hg7 hb7
    have hnew := HOW5.out.push6 (fun b hb => (HBL.out b hb).1) hgw5 (e := rfl) hown7 hg7 hb7
    have hst := Lib.hid (bent_st (u := v') (i := 6) (k := k) hwB hcw hold.out HX5.out HD5.out HR5.out HC5.out HG5.out hkl (by decide) rfl (fun i u hu => (HE5.out i u hu).1) hg7 (fun b e => by rw [blks_four]; simp only [List.mem_append, blkO_mem]; simp [e]) ⟨hgB, hgD⟩ (fun b hb => ⟨(HOW5.out.lt b hb).1, (HBL.out b hb).2⟩) hnew)
    have hne7 : some g ≠ Value.ownBlock v6 := fun e => (HBL.out g (by rw [blks_four]; simp only [List.mem_append, blkO_mem]; simp [← e])).1 rfl
    have hneD : some D ≠ Value.ownBlock v6 := fun e => by have := (HBL.out D (by rw [blks_four]; simp only [List.mem_append, blkO_mem]; simp [← e])).2; omega
    obtain ⟨cz, fz⟩ := keep_cellB hg7 hne7 (HE5.out 6 _ rfl)
    obtain ⟨cd, -⟩ := keep_cellB hg7 hneD (HD5.out 0 _ rfl)
    obtain ⟨x', c', rfl, -⟩ := own_row (f := Value.int .i64) hown7
    clear hown7 hg7 hb7 hnew hne7 hneD
    obtain ⟨nl, hnl⟩ : ∃ nl, (rs[k].tags ++ [y]).length = nl := ⟨_, rfl⟩
    rw [hnl] at hst ⊢
    clear hnl
    refine hK.out _ _ ?_ ?_
    · (try dsimp only); exact ⟨cd, cz⟩
    clear hK K
    (try simp only [Act.put, List.setIfInBounds_toArray, List.set_cons_zero, List.set_cons_succ])
    have hHeld7 : w7.cell? ⟨D, 0, none⟩ = some (.slice (some ⟨g, off, none⟩) rs.length cp) ∧ w7.cell? ⟨g, off + k * 8 + 6, none⟩ = some v6 := ⟨cd, cz⟩
    refine Till.pure (i := 14) (v := ?v85) (by kernel_rfl) (by simp only [List.getElem?_toArray, List.getElem?_cons_succ, List.getElem?_cons_zero]; rfl) (Or.inl ⟨by rfl, ?hy85⟩) (by assumption) ?rest85
    case hy85 => ((intro W hSw; (try dsimp only at hSw); go_simp); (try with_reducible rfl))
    (try simp only [Act.put, List.setIfInBounds_toArray, List.set_cons_zero, List.set_cons_succ])
    refine Till.pure (i := 15) (v := ?v86) (by kernel_rfl) (by simp only [List.getElem?_toArray, List.getElem?_cons_succ, List.getElem?_cons_zero]; rfl) (Or.inl ⟨by rfl, ?hy86⟩) (by assumption) ?rest86
    case hy86 => ((intro W hSw; (try dsimp only at hSw); go_simp); (try with_reducible rfl))
    (try simp only [Act.put, List.setIfInBounds_toArray, List.set_cons_zero, List.set_cons_succ])
    refine Till.last (by kernel_rfl) (by kernel_rfl) (by simp only [List.getElem?_toArray, List.getElem?_cons_succ, List.getElem?_cons_zero]; rfl) (fun K hK => ?_)
    go_simp
    refine hK.out _ _ ?_
    clear hK K
    clear HOS cz fz cd hHeld7
    have HBG : Hid (∀ r ∈ rs.set k ⟨rs[k].name, rs[k].kind, rs[k].size, rs[k].little, rs[k].bytes, rs[k].names, rs[k].tags ++ [y], rs[k].kids⟩, Short r ∧ Spelt r) := bent_all HM.out ⟨by have := HL.out; unfold Short; simp; omega, (HM.out _ (List.getElem_mem hkl)).2⟩
    generalize w7.setCell ⟨g, off + k * 8 + 6, none⟩ (.slice x' nl c') = wz at hst ⊢
    clear HX5 HD5 HR5 HC5 HG5 HE5 HOW5 HX HD HR HC HG HCE HBL HOW hHeld
    obtain ⟨hX9, hD9, hR9, hC9, hG9⟩ := hst.out
    obtain ⟨z0, t0⟩ := hX9 0 _ rfl
    obtain ⟨d0, -⟩ := hD9 0 _ rfl
    have HRF := Lib.hid ((hR9.grown (grown_set (grown_refl _ w.heap.size) 0 (.slice (some ⟨g, off, none⟩) rs.length cp)) hwB).more (base' := w.heap.size) (by omega))
    have HCF := Lib.hid (hC9.put (q := w.heap.size) (i := 0) (v := .slice (some ⟨g, off, none⟩) rs.length cp) (by omega) (fun b off ha hl => by have := hold.out b off ha hl; omega))
    have HGF := Lib.hid (grown_put (q := w.heap.size) (i := 0) (v := .slice (some ⟨g, off, none⟩) rs.length cp) hG9 (Nat.le_refl _))
    clear hX9 hD9 hR9 hC9 hG9 hst
    go_wp2
    (try simp only [Exit.inBlock, Exit.then])
    refine bodyPost_ret (v := .agg #[.slice (some ⟨g, off, none⟩) rs.length cp]) ?_ rfl ?_
    · simp [results, Try.results45, go_sem, z0]
    · exact ⟨rs.set k ⟨rs[k].name, rs[k].kind, rs[k].size, rs[k].little, rs[k].bytes, rs[k].names, rs[k].tags ++ [y], rs[k].kids⟩, _, cp, by rw [List.length_set], by rw [List.length_set]; omega, HBG.out, by rw [List.length_set]; exact HRF.out, HCF.out, HGF.out⟩
  · obtain ⟨z0, t0⟩ := HX.out 0 _ rfl
    have HCF := Lib.hid (HC.out.put (q := w.heap.size) (i := 0) (v := .slice none 0 0) (by omega) (fun b off ha hl => by have := hold.out b off ha hl; omega))
    have HGF := Lib.hid (grown_put (q := w.heap.size) (i := 0) (v := .slice none 0 0) HG.out (Nat.le_refl _))
    clear HX HD HR HC HG
    go_wp2
    (try simp only [Exit.inBlock, Exit.then])
    refine bodyPost_ret (v := .agg #[.slice none 0 0]) ?_ rfl ?_
    · simp [results, Try.results45, go_sem, z0]
    · exact ⟨[], none, 0, rfl, by simp, (fun r hr => by cases hr), RowR.start _ _, HCF.out, HGF.out⟩
  · have e0 : ¬ j = 0 := by omega
    have e1 : ¬ j = 1 := by omega
    have e2 : ¬ j = 2 := by omega
    have e3 : ¬ j = 3 := by omega
    have e4 : ¬ j = 4 := by omega
    have e5 : ¬ j = 5 := by omega
    have e6 : ¬ j = 6 := by omega
    have e7 : ¬ j = 7 := by omega
    have e8 : ¬ j = 8 := by omega
    have hst : Hid (AnySt a len cap c D B (.slice (some ⟨g, off, none⟩) rs.length cp) rs w z2) := ⟨HX.out, HD.out, HR.out.row, HC.out, HG.out⟩
    clear HX HD HR HC HG
    obtain ⟨hX9, hD9, hR9, hC9, hG9⟩ := hst.out
    obtain ⟨z0, t0⟩ := hX9 0 _ rfl
    obtain ⟨d0, -⟩ := hD9 0 _ rfl
    have HRF := Lib.hid ((hR9.grown (grown_set (grown_refl _ w.heap.size) 0 (.slice (some ⟨g, off, none⟩) rs.length cp)) hwB).more (base' := w.heap.size) (by omega))
    have HCF := Lib.hid (hC9.put (q := w.heap.size) (i := 0) (v := .slice (some ⟨g, off, none⟩) rs.length cp) (by omega) (fun b off ha hl => by have := hold.out b off ha hl; omega))
    have HGF := Lib.hid (grown_put (q := w.heap.size) (i := 0) (v := .slice (some ⟨g, off, none⟩) rs.length cp) hG9 (Nat.le_refl _))
    clear hX9 hD9 hR9 hC9 hG9 hst
    go_wp2
    (try simp only [Exit.inBlock, Exit.then])
    refine bodyPost_ret (v := .agg #[.slice (some ⟨g, off, none⟩) rs.length cp]) ?_ rfl ?_
    · simp [results, Try.results45, go_sem, z0]
    · exact ⟨rs, _, cp, rfl, hn6, HM.out, HRF.out, HCF.out, HGF.out⟩
end Go.Proofs.Ytekmopoblfknlaa
