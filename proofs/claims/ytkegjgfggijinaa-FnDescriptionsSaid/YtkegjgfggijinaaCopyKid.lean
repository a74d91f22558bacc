/- Contracts of slices.Clone, copyRule and CopyDescription once more: the Kids of a copied rule are a row of their own, which may be appended to. -/
import Derived.Test.YtkegjgfggijinaaCopyDescr
import Derived.Test.YtkegjgfggijinaaStepF
import Derived.Test.YtkegjgfggijinaaValidD
namespace Go.Proofs.Ytkegjgfggijinaa
open Go Go.RowKit
theorem own_set {base c i n : Nat} {t : TypeId} {v u : Value} {vs : List Value} {w : World} (h : w.ownsRow base t 1 v n vs) (hc : c < base) : (w.setCell ⟨c, i, none⟩ u).ownsRow base t 1 v n vs := own_far h hc (grown_set (grown_refl w c) i u)
theorem own_put {base c n : Nat} {t : TypeId} {v : Value} {vs : List Value} (hc : c < base) : ∀ (us : List Value) (o : Nat) (w : World), w.ownsRow base t 1 v n vs → (putList w c o us).ownsRow base t 1 v n vs
  | [], _, _, h => h
  | _ :: us, o, _, h => own_put hc us (o + 1) _ (own_set h hc)
theorem own_below {base n : Nat} {t : TypeId} {v : Value} {vs : List Value} {w w' : World} (h : w.ownsRow base t 1 v n vs) (hb : Below w.heap.size w w') : w'.ownsRow base t 1 v n vs :=
  own_keep h (row := none) ⟨hb.os, hb.tape, hb.output, hb.size, fun k hk _ => hb.block k hk⟩ (fun _ _ => by simp)
/-- The Kids of the rule in these cells are a row of their own, behind the other slices. -/
def KidOwn (lo : Nat) (r : RuleV) (cs : List Value) (w : World) : Prop :=
  ∃ q v7, lo ≤ q ∧ q ≤ w.heap.size ∧ cs[7]? = some v7 ∧ (∀ b ∈ (cs.take 7).flatMap sliceBlk, b < q) ∧ w.ownsRow q 3 1 v7 r.kids.length (r.kids.map (Value.int .i64))
theorem KidOwn.more {lo lo' : Nat} {r : RuleV} {cs : List Value} {w : World} (h : KidOwn lo r cs w) (hl : lo' ≤ lo) : KidOwn lo' r cs w := by
  obtain ⟨q, v7, h1, h2⟩ := h
  exact ⟨q, v7, Nat.le_trans hl h1, h2⟩
theorem kid_set {B i : Nat} {r : RuleV} {cs : List Value} {w : World} {u : Value} (h : KidOwn (B + 2) r cs w) : KidOwn (B + 2) r cs (w.setCell ⟨B + 1, i, none⟩ u) := by
  obtain ⟨q, v7, h1, h0, h2, h3, h4⟩ := h
  exact ⟨q, v7, h1, by simpa using h0, h2, h3, own_set h4 (by omega)⟩
theorem three_blks {r : RuleV} {p : Nat} {p0 p1 p2 p3 p4 p5 : Nat} {a4 a5 a6 a7 : Option Addr} {n4 n5 n6 n7 c4 c5 c6 c7 : Nat} (h4 : Lies p0 p1 a4 n4) (h5 : Lies p2 p3 a5 n5) (h6 : Lies p4 p5 a6 n6) (q1 : p1 ≤ p) (q2 : p3 ≤ p) (q3 : p5 ≤ p) :
    ∀ b ∈ (([.string r.name, .int .i64 r.kind, .int .i64 r.size, .bool r.little, .slice a4 n4 c4, .slice a5 n5 c5, .slice a6 n6 c6, .slice a7 n7 c7] : List Value).take 7).flatMap sliceBlk, b < p := by
  have b4 := h4.blk (c := c4)
  have b5 := h5.blk (c := c5)
  have b6 := h6.blk (c := c6)
  intro b hb
  have e : (([.string r.name, .int .i64 r.kind, .int .i64 r.size, .bool r.little, .slice a4 n4 c4, .slice a5 n5 c5, .slice a6 n6 c6, .slice a7 n7 c7] : List Value).take 7).flatMap sliceBlk = sliceBlk (.slice a4 n4 c4) ++ (sliceBlk (.slice a5 n5 c5) ++ sliceBlk (.slice a6 n6 c6)) := by
    simp only [List.take_succ_cons, List.take_zero, List.flatMap_cons, List.flatMap_nil, List.append_nil]
    rfl
  rw [e] at hb
  simp only [List.mem_append] at hb
  rcases hb with hb | hb | hb
  · have := b4 b hb; omega
  · have := b5 b hb; omega
  · have := b6 b hb; omega
/-- A copied rule comes back, its Kids a row of their own. -/
def RuleOutK (r : RuleV) (w : World) (e : Ending) (w' : World) : Prop := ∃ cs, e = .returned (.agg cs.toArray) ∧ OwnRule w.heap.size w'.heap.size r cs w' ∧ Below w.heap.size w w' ∧ KidOwn w.heap.size r cs w'
/-- The Kids of rule i of the n rules in block N are a row of their own, apart from all other slices. -/
def KidFar (r : RuleV) (i N n : Nat) (W : World) : Prop :=
  ∃ q h v7, N < q ∧ q ≤ h ∧ h ≤ W.heap.size ∧ W.cell? ⟨N, i * 8 + 7, none⟩ = some v7 ∧ W.frozen? ⟨N, i * 8 + 7, none⟩ = false ∧ W.ownsRow q 3 1 v7 r.kids.length (r.kids.map (Value.int .i64)) ∧ (∀ g, v7.ownBlock = some g → g < h) ∧
    ∀ j c, j < n → c < 8 → ¬ (j = i ∧ c = 7) → ∀ v, W.cell? ⟨N, j * 8 + c, none⟩ = some v → ∀ b ∈ sliceBlk v, N < b ∧ (b < q ∨ h ≤ b)
theorem KidFar.below {r : RuleV} {i N n : Nat} {W W' : World} (h : KidFar r i N n W) (hb : Below W.heap.size W W') (hN : N < W.heap.size) : KidFar r i N n W' := by
  obtain ⟨q, p, v7, h1, h0, h2, h3, h4, h5, h6, h7⟩ := h
  refine ⟨q, p, v7, h1, h0, Nat.le_trans h2 hb.size, (hb.cell hN).trans h3, (hb.frozen (p := ⟨N, i * 8 + 7, none⟩) hN).trans h4, own_below h5 hb, h6, fun j c hj hc hne v hv => h7 j c hj hc hne v ?_⟩
  rw [← hv]; exact (hb.cell (p := ⟨N, j * 8 + c, none⟩) hN).symm
theorem KidFar.setFar {r : RuleV} {i N n c o : Nat} {W : World} {u : Value} (h : KidFar r i N n W) (hc : c < N) : KidFar r i N n (W.setCell ⟨c, o, none⟩ u) := by
  obtain ⟨q, p, v7, h1, h0, h2, h3, h4, h5, h6, h7⟩ := h
  have hne : ∀ x, (W.setCell ⟨c, o, none⟩ u).cell? ⟨N, x, none⟩ = W.cell? ⟨N, x, none⟩ := fun x => World.cell?_setCell_other _ _ _ _ (fun he => by have h1 := congrArg Addr.block he; simp at h1; omega)
  exact ⟨q, p, v7, h1, h0, by simpa using h2, (hne _).trans h3, by simpa using h4, own_set h5 (by omega), h6, fun j c hj hc hn v hv => h7 j c hj hc hn v ((hne _).symm.trans hv)⟩
theorem blk_of_cell {lo hi : Nat} {r : RuleV} {cs : List Value} {w : World} (h : OwnRule lo hi r cs w) {c : Nat} {v : Value} (hv : cs[c]? = some v) {b : Nat} (hb : b ∈ sliceBlk v) : lo ≤ b ∧ b < hi := by
  obtain ⟨_, _, _, _, _, _, _, _, _, _, _, _, _, _, h2⟩ := h
  exact h2 b (List.mem_flatMap.2 ⟨v, List.mem_of_getElem? hv, hb⟩)
theorem KidFar.next {rs : List RuleV} {k N i : Nat} {w W W1 : World} {cs : List Value} (h : HalfR rs k N w W) (hk : k < rs.length) (hi : i < rs.length) (hb : Below W.heap.size W W1) (hr : OwnRule W.heap.size W1.heap.size rs[k] cs W1) (ho : KidOwn W.heap.size rs[k] cs W1) (hf : i < k → KidFar rs[i] i N k W) : i < k + 1 → KidFar rs[i] i N (k + 1) (putList W1 N (k * 8) cs) := by
  intro hik
  obtain ⟨h1, h2, css, hl, hoo, hc, hfz, hz, hn⟩ := h
  have hlen := hr.length
  have hs := hb.size
  have hat : ∀ c v, cs[c]? = some v → (putList W1 N (k * 8) cs).cell? ⟨N, k * 8 + c, none⟩ = some v := fun c v hv => by
    have hc8 : c < 8 := by
      rcases Nat.lt_or_ge c 8 with h | h
      · exact h
      · rw [List.getElem?_eq_none (by omega)] at hv; cases hv
    obtain ⟨u, hu⟩ : ∃ u, ([.string ⟨#[]⟩, .int .i64 0, .int .i64 0, .bool false, .slice none 0 0, .slice none 0 0, .slice none 0 0, .slice none 0 0] : List Value)[c]? = some u := ⟨_, List.getElem?_eq_getElem (by simpa using hc8)⟩
    exact putList_at N cs (k * 8) c W1 v u hv ((hb.cell (p := ⟨N, k * 8 + c, none⟩) h2).trans (hz k (Nat.le_refl _) hk c u hu))
  have hold : ∀ j c, j < k → c < 8 → (putList W1 N (k * 8) cs).cell? ⟨N, j * 8 + c, none⟩ = W.cell? ⟨N, j * 8 + c, none⟩ := fun j c hj hc8 => by
    rw [putList_far N _ cs _ _ (.inr (.inl (by show j * 8 + c < k * 8; omega)))]
    exact hb.cell (p := ⟨N, j * 8 + c, none⟩) h2
  have hcell : ∀ j c v, j < k → c < 8 → W.cell? ⟨N, j * 8 + c, none⟩ = some v → ∀ b ∈ sliceBlk v, N + 1 ≤ b ∧ b < W.heap.size := fun j c v hj hc8 hv b hbv => by
    have hjl : j < css.length := by omega
    have ho1 := hoo j (by omega) hjl
    have hl8 := ho1.length
    have e := hc j hjl c (css[j][c]'(by omega)) (List.getElem?_eq_getElem (by omega))
    rw [hv] at e
    injection e with e
    exact blk_of_cell ho1 (c := c) (v := v) (by rw [e]; exact List.getElem?_eq_getElem (by omega)) hbv
  have hnew : ∀ c v, c < 8 → (putList W1 N (k * 8) cs).cell? ⟨N, k * 8 + c, none⟩ = some v → cs[c]? = some v := fun c v hc8 hv => by
    have e := hat c (cs[c]'(by omega)) (List.getElem?_eq_getElem (by omega))
    rw [hv] at e
    injection e with e
    rw [e]; exact List.getElem?_eq_getElem (by omega)
  by_cases hlt : i < k
  · obtain ⟨q, p, v7, g1, g0, g2, g3, g4, g5, g6, g7⟩ := hf hlt
    refine ⟨q, p, v7, g1, g0, by rw [putList_size]; omega, (hold i 7 hlt (by omega)).trans g3, ?_, own_put g1 _ _ _ (own_below g5 hb), g6, fun j c hj hc8 hne v hv b hbv => ?_⟩
    · rw [putList_frozen]; exact (hb.frozen (p := ⟨N, i * 8 + 7, none⟩) h2).trans g4
    · by_cases hjk : j < k
      · rw [hold j c hjk hc8] at hv
        exact g7 j c hjk hc8 hne v hv b hbv
      · obtain rfl : j = k := by omega
        have := blk_of_cell hr (hnew c v hc8 hv) hbv
        omega
  · obtain rfl : i = k := by omega
    obtain ⟨q, v7, g1, g0, g2, g3, g4⟩ := ho
    refine ⟨q, W1.heap.size, v7, by omega, g0, by rw [putList_size]; exact Nat.le_refl _, hat 7 v7 g2, ?_, own_put (by omega) _ _ _ g4, fun g hg => (World.ownsRow.lt g4 g hg).2, fun j c hj hc8 hne v hv b hbv => ?_⟩
    · rw [putList_frozen]; exact (hb.frozen (p := ⟨N, i * 8 + 7, none⟩) h2).trans (hfz _ (by omega))
    · by_cases hjk : j < i
      · rw [hold j c hjk hc8] at hv
        have := hcell j c v hjk hc8 hv b hbv
        omega
      · obtain rfl : j = i := by omega
        have hc7 : c < 7 := by omega
        have e := hnew c v hc8 hv
        have q1 := blk_of_cell hr e hbv
        have q2 := g3 b (List.mem_flatMap.2 ⟨v, List.mem_of_getElem? (i := c) (by rw [List.getElem?_take]; simp [hc7, e]), hbv⟩)
        omega
/-- A copied description comes back, the Kids of rule i a row of their own. -/
def DescrOutK (rs : List RuleV) (i : Nat) (hi : i < rs.length) (w : World) (e : Ending) (w' : World) : Prop := ∃ N, e = .returned (.agg #[.slice (some ⟨N, 0, none⟩) rs.length rs.length]) ∧ OwnR w.heap.size w'.heap.size (some ⟨N, 0, none⟩) rs rs.length w' ∧ Below w.heap.size w w' ∧ KidFar rs[i] i N rs.length w'
set_option maxRecDepth 100000 in
set_option maxHeartbeats 2000000 in
theorem clone_ints_own (a : Option Addr) (xs : List Int) (cap : Nat) (w : World) (hl : xs.length ≤ 1048576) (h : RdF (Value.int .i64) a xs w) :
    Calls Try.prog 60 #[.slice a xs.length cap] w fun e w' => ∃ a' c', e = .returned (.slice a' xs.length c') ∧ RowF (Value.int .i64) w.heap.size a' xs c' w' ∧ w'.ownsRow w.heap.size 3 1 (.slice a' xs.length c') xs.length (xs.map (Value.int .i64)) ∧ Below w.heap.size w w' := by
  have q22 : ∀ (w : World) (a : Option Addr) (n c n' c' : Nat), (binOp .eql 33 (.slice a n c) (.slice none n' c')).run Try.prog w = .ok (.bool a.isNone) w := fun w a n c n' c' => Lib.run_eql_slice_nil w _ _ a n c n' c' Try.underlying33
  obtain ⟨i0, hi, hz0, hz1, hz2⟩ := infoPartsI
  rcases a with _ | ad
  · have hx : xs = [] := by
      cases xs with
      | nil => rfl
      | cons x r => obtain ⟨b, off, e, _⟩ := h 0 (by simp); cases e
    subst hx
    clear h
    go_enter Try.func60, Try.ntmps60
    go_wp2
    go_ret
    exact ⟨none, 0, rfl, ⟨.inl rfl, Nat.le_refl _, fun _ => rfl⟩, World.ownsRow_nil w _ _ _, Below.refl _ _⟩
  · have hnews : ∀ (W : World), Below w.heap.size w W → ∀ j u, (xs.map (Value.int .i64))[j]? = some u → W.cell? (ad.add j) = some u := fun W hb j u hj => by
      have hj2 : j < xs.length := by
        rcases Nat.lt_or_ge j xs.length with h1 | h1
        · exact h1
        · rw [List.getElem?_eq_none (by simpa using h1)] at hj; cases hj
      obtain ⟨b, off, e, hc⟩ := (h.below hb) j hj2
      injection e with e
      subst e
      rw [List.getElem?_map, List.getElem?_eq_getElem hj2] at hj
      simp only [Option.map_some, Option.some.injEq] at hj
      subst hj
      rw [Addr.add_lit]
      exact hc
    have HN := Lib.hid hnews
    clear hnews h
    go_enter Try.func60, Try.ntmps60
    go_wp2_with (at_builtin; refine wpList_append_own _ rfl _ _ 33 rfl w.heap.size 3 i0 (.int .i64 0) 1 8 Try.underlying33 hi hz0 hz1 hz2 rfl (by decide) _ _ _ rfl (World.ownsRow_made w #[] 0 (Nat.le_refl _) (Nat.zero_le _) rfl) ad xs.length cap (xs.map (Value.int .i64)) rfl ?qc1 ?qc2 ?qc3 ?qc4 ?qc5 ?qc6 ?_)
    case qc1 => simp
    case qc2 => exact HN.out _ ((Below.refl _ w).alloc (Nat.le_refl _) _)
    case qc3 =>
      intro u hu
      obtain ⟨x, _, rfl⟩ := List.mem_map.1 hu
      rfl
    case qc4 => unfold maxLen; omega
    case qc5 => omega
    case qc6 => simp
    intro v' w1 hown hgrow hnil
    have hB : Below w.heap.size w w1 := ((Below.refl _ w).alloc (Nat.le_refl _) _).grown hgrow (by simp) (by intro k hk; simp [Value.ownBlock] at hk; omega)
    have hown2 : w1.ownsRow w.heap.size 3 1 v' xs.length (xs.map (Value.int .i64)) := by simpa using hown
    obtain ⟨a', c', rfl, hrow⟩ := own_row (f := Value.int .i64) (base := w.heap.size) (t := 3) (v := v') (xs := xs) (w := w1) hown2
    have HO2 := Lib.hid hown2
    clear hown2
    clear hown hgrow hnil
    have HB := Lib.hid hB
    have HR := Lib.hid hrow
    clear hB hrow
    go_wp2
    go_ret
    exact ⟨a', c', rfl, HR.out, HO2.out, HB.out⟩
set_option maxRecDepth 100000 in
set_option maxHeartbeats 4000000 in
theorem copyrule_kid (r : RuleV) (cs : List Value) (w : World) (hs : Short r) (h : IsRule r cs w) :
    Calls Try.prog 34 #[.agg cs.toArray] w (RuleOutK r w) := by
  obtain ⟨a4, c4, a5, c5, a6, c6, a7, c7, rfl, h4, h5, h6, h7⟩ := h
  obtain ⟨s4, s5, s6, s7⟩ := hs
  obtain ⟨w0, hw0⟩ : ∃ w0, w0 = (w.alloc (.cells #[.string r.name, .int .i64 r.kind, .int .i64 r.size, .bool r.little, .slice a4 r.bytes.length c4, .slice a5 r.names.length c5, .slice a6 r.tags.length c6, .slice a7 r.kids.length c7] 35)).alloc (.cells #[.string ⟨#[]⟩, .int .i64 0, .int .i64 0, .bool false, .slice none 0 0, .slice none 0 0, .slice none 0 0, .slice none 0 0] 35) := ⟨_, rfl⟩
  have hB0 : Below w.heap.size w w0 := by subst hw0; exact ((Below.refl _ _).alloc (Nat.le_refl _) _).alloc (by simp) _
  have hsz0 : w0.heap.size = w.heap.size + 2 := by subst hw0; simp
  have I0 : CellsAt w.heap.size [.string r.name, .int .i64 r.kind, .int .i64 r.size, .bool r.little, .slice a4 r.bytes.length c4, .slice a5 r.names.length c5, .slice a6 r.tags.length c6, .slice a7 r.kids.length c7] w0 := by subst hw0; exact (CellsAt.new w _ _).below ((Below.refl _ _).alloc (Nat.le_refl _) _)
  have Z0 : CellsAt (w.heap.size + 1) [.string ⟨#[]⟩, .int .i64 0, .int .i64 0, .bool false, .slice none 0 0, .slice none 0 0, .slice none 0 0, .slice none 0 0] w0 := by
    subst hw0
    have h1 := CellsAt.new (w.alloc (.cells #[.string r.name, .int .i64 r.kind, .int .i64 r.size, .bool r.little, .slice a4 r.bytes.length c4, .slice a5 r.names.length c5, .slice a6 r.tags.length c6, .slice a7 r.kids.length c7] 35)) [.string ⟨#[]⟩, .int .i64 0, .int .i64 0, .bool false, .slice none 0 0, .slice none 0 0, .slice none 0 0, .slice none 0 0] 35
    simpa using h1
  have H4 := Lib.hid (h4.below hB0)
  have H5 := Lib.hid (h5.below hB0)
  have H6 := Lib.hid (h6.below hB0)
  have H7 := Lib.hid (h7.below hB0)
  have H5w := Lib.hid (h5)
  have H6w := Lib.hid (h6)
  have H7w := Lib.hid (h7)
  have HB0 := Lib.hid hB0
  have HI0 := Lib.hid I0
  have HZ0 := Lib.hid Z0
  clear h4 h5 h6 h7 hB0 I0 Z0
  go_enter Try.func34, Try.ntmps34
  go_wp2_with fail
  rw [← hw0]
  clear hw0
  refine (clone_bytes a4 r.bytes c4 _ (by omega) H4.out).mono ?_
  rintro e w1 ⟨x4, y4, rfl, hr1, hb1⟩
  have hs1 := hb1.size
  have HLi4 := Lib.hid hr1.1.lies
  have I1 := HI0.out.below hb1
  have Z1 := HZ0.out.below hb1
  obtain ⟨v1, hv1⟩ : ∃ v, v = w1.setCell ⟨w.heap.size, 4, none⟩ (.slice x4 r.bytes.length y4) := ⟨_, rfl⟩
  have hvs1 : v1.heap.size = w1.heap.size := by subst hv1; simp
  have HI1 := Lib.hid (I1.set 4 (.slice x4 r.bytes.length y4) (by simp))
  rw [← hv1] at HI1
  simp only [List.set] at HI1
  have HZ1 := Lib.hid (Z1.far (b' := w.heap.size) (j := 4) (v := (.slice x4 r.bytes.length y4)) (by omega))
  rw [← hv1] at HZ1
  have HB1 : Hid (Below w.heap.size w v1) := by subst hv1; exact (HB0.out.trans (hb1.mono (by omega))).setCell (p := ⟨w.heap.size, 4, none⟩) (by simp) _
  have R4 := Lib.hid (hr1.setFar (c := w.heap.size) (i := 4) (v := (.slice x4 r.bytes.length y4)) (by omega))
  rw [← hv1] at R4
  have H5n : Hid (RdF Value.string a5 r.names v1) := by
    intro q hq
    obtain ⟨b, off, ha, hc⟩ := (H5.out.below hb1) q hq
    obtain ⟨b', off', ha', hc'⟩ := H5w.out q hq
    rw [ha] at ha'
    injection ha' with ha'
    injection ha' with e1 e2
    subst e1 e2
    refine ⟨b, off, ha, ?_⟩
    rw [hv1]
    rw [World.cell?_setCell_other _ _ _ _ (fun he => by have h1 := congrArg Addr.block he; have h2 := cell_lt hc'; simp at h1 h2; omega)]
    exact hc
  clear H5
  have H5 := H5n
  clear H5n
  have H6n : Hid (RdF (Value.int .i64) a6 r.tags v1) := by
    intro q hq
    obtain ⟨b, off, ha, hc⟩ := (H6.out.below hb1) q hq
    obtain ⟨b', off', ha', hc'⟩ := H6w.out q hq
    rw [ha] at ha'
    injection ha' with ha'
    injection ha' with e1 e2
    subst e1 e2
    refine ⟨b, off, ha, ?_⟩
    rw [hv1]
    rw [World.cell?_setCell_other _ _ _ _ (fun he => by have h1 := congrArg Addr.block he; have h2 := cell_lt hc'; simp at h1 h2; omega)]
    exact hc
  clear H6
  have H6 := H6n
  clear H6n
  have H7n : Hid (RdF (Value.int .i64) a7 r.kids v1) := by
    intro q hq
    obtain ⟨b, off, ha, hc⟩ := (H7.out.below hb1) q hq
    obtain ⟨b', off', ha', hc'⟩ := H7w.out q hq
    rw [ha] at ha'
    injection ha' with ha'
    injection ha' with e1 e2
    subst e1 e2
    refine ⟨b, off, ha, ?_⟩
    rw [hv1]
    rw [World.cell?_setCell_other _ _ _ _ (fun he => by have h1 := congrArg Addr.block he; have h2 := cell_lt hc'; simp at h1 h2; omega)]
    exact hc
  clear H7
  have H7 := H7n
  clear H7n
  obtain ⟨i5, -⟩ := I1 5 _ rfl
  obtain ⟨o4, p4⟩ := I1 4 _ rfl
  clear hr1 hb1 I1 Z1 HI0 HZ0
  go_wp2_with fail
  rw [← hv1]
  clear hv1 i5 o4 p4
  refine (clone_strs a5 r.names c5 _ (by omega) H5.out).mono ?_
  rintro e w2 ⟨x5, y5, rfl, hr2, hb2⟩
  have hs2 := hb2.size
  have HLi5 := Lib.hid hr2.1.lies
  have R4a := Lib.hid (R4.out.below hb2)
  clear R4
  have I2 := HI1.out.below hb2
  have Z2 := HZ1.out.below hb2
  obtain ⟨v2, hv2⟩ : ∃ v, v = w2.setCell ⟨w.heap.size, 5, none⟩ (.slice x5 r.names.length y5) := ⟨_, rfl⟩
  have hvs2 : v2.heap.size = w2.heap.size := by subst hv2; simp
  have HI2 := Lib.hid (I2.set 5 (.slice x5 r.names.length y5) (by simp))
  rw [← hv2] at HI2
  simp only [List.set] at HI2
  have HZ2 := Lib.hid (Z2.far (b' := w.heap.size) (j := 5) (v := (.slice x5 r.names.length y5)) (by omega))
  rw [← hv2] at HZ2
  have HB2 : Hid (Below w.heap.size w v2) := by subst hv2; exact (HB1.out.trans (hb2.mono (by omega))).setCell (p := ⟨w.heap.size, 5, none⟩) (by simp) _
  have R4 := Lib.hid (R4a.out.setFar (c := w.heap.size) (i := 5) (v := (.slice x5 r.names.length y5)) (by omega))
  rw [← hv2] at R4
  clear R4a
  have R5 := Lib.hid (hr2.setFar (c := w.heap.size) (i := 5) (v := (.slice x5 r.names.length y5)) (by omega))
  rw [← hv2] at R5
  have H6n : Hid (RdF (Value.int .i64) a6 r.tags v2) := by
    intro q hq
    obtain ⟨b, off, ha, hc⟩ := (H6.out.below hb2) q hq
    obtain ⟨b', off', ha', hc'⟩ := H6w.out q hq
    rw [ha] at ha'
    injection ha' with ha'
    injection ha' with e1 e2
    subst e1 e2
    refine ⟨b, off, ha, ?_⟩
    rw [hv2]
    rw [World.cell?_setCell_other _ _ _ _ (fun he => by have h1 := congrArg Addr.block he; have h2 := cell_lt hc'; simp at h1 h2; omega)]
    exact hc
  clear H6
  have H6 := H6n
  clear H6n
  have H7n : Hid (RdF (Value.int .i64) a7 r.kids v2) := by
    intro q hq
    obtain ⟨b, off, ha, hc⟩ := (H7.out.below hb2) q hq
    obtain ⟨b', off', ha', hc'⟩ := H7w.out q hq
    rw [ha] at ha'
    injection ha' with ha'
    injection ha' with e1 e2
    subst e1 e2
    refine ⟨b, off, ha, ?_⟩
    rw [hv2]
    rw [World.cell?_setCell_other _ _ _ _ (fun he => by have h1 := congrArg Addr.block he; have h2 := cell_lt hc'; simp at h1 h2; omega)]
    exact hc
  clear H7
  have H7 := H7n
  clear H7n
  obtain ⟨i6, -⟩ := I2 6 _ rfl
  obtain ⟨o5, p5⟩ := I2 5 _ rfl
  clear hr2 hb2 I2 Z2 HI1 HZ1
  go_wp2_with fail
  rw [← hv2]
  clear hv2 i6 o5 p5
  refine (clone_ints a6 r.tags c6 _ (by omega) H6.out).mono ?_
  rintro e w3 ⟨x6, y6, rfl, hr3, hb3⟩
  have hs3 := hb3.size
  have HLi6 := Lib.hid hr3.1.lies
  have R4a := Lib.hid (R4.out.below hb3)
  clear R4
  have R5a := Lib.hid (R5.out.below hb3)
  clear R5
  have I3 := HI2.out.below hb3
  have Z3 := HZ2.out.below hb3
  obtain ⟨v3, hv3⟩ : ∃ v, v = w3.setCell ⟨w.heap.size, 6, none⟩ (.slice x6 r.tags.length y6) := ⟨_, rfl⟩
  have hvs3 : v3.heap.size = w3.heap.size := by subst hv3; simp
  have HI3 := Lib.hid (I3.set 6 (.slice x6 r.tags.length y6) (by simp))
  rw [← hv3] at HI3
  simp only [List.set] at HI3
  have HZ3 := Lib.hid (Z3.far (b' := w.heap.size) (j := 6) (v := (.slice x6 r.tags.length y6)) (by omega))
  rw [← hv3] at HZ3
  have HB3 : Hid (Below w.heap.size w v3) := by subst hv3; exact (HB2.out.trans (hb3.mono (by omega))).setCell (p := ⟨w.heap.size, 6, none⟩) (by simp) _
  have R4 := Lib.hid (R4a.out.setFar (c := w.heap.size) (i := 6) (v := (.slice x6 r.tags.length y6)) (by omega))
  rw [← hv3] at R4
  clear R4a
  have R5 := Lib.hid (R5a.out.setFar (c := w.heap.size) (i := 6) (v := (.slice x6 r.tags.length y6)) (by omega))
  rw [← hv3] at R5
  clear R5a
  have R6 := Lib.hid (hr3.setFar (c := w.heap.size) (i := 6) (v := (.slice x6 r.tags.length y6)) (by omega))
  rw [← hv3] at R6
  have H7n : Hid (RdF (Value.int .i64) a7 r.kids v3) := by
    intro q hq
    obtain ⟨b, off, ha, hc⟩ := (H7.out.below hb3) q hq
    obtain ⟨b', off', ha', hc'⟩ := H7w.out q hq
    rw [ha] at ha'
    injection ha' with ha'
    injection ha' with e1 e2
    subst e1 e2
    refine ⟨b, off, ha, ?_⟩
    rw [hv3]
    rw [World.cell?_setCell_other _ _ _ _ (fun he => by have h1 := congrArg Addr.block he; have h2 := cell_lt hc'; simp at h1 h2; omega)]
    exact hc
  clear H7
  have H7 := H7n
  clear H7n
  obtain ⟨i7, -⟩ := I3 7 _ rfl
  obtain ⟨o6, p6⟩ := I3 6 _ rfl
  clear hr3 hb3 I3 Z3 HI2 HZ2
  go_wp2_with fail
  rw [← hv3]
  clear hv3 i7 o6 p6
  refine (clone_ints_own a7 r.kids c7 _ (by omega) H7.out).mono ?_
  rintro e w4 ⟨x7, y7, rfl, hr4, ho7, hb4⟩
  have hs4 := hb4.size
  have HLi7 := Lib.hid hr4.1.lies
  have R4a := Lib.hid (R4.out.below hb4)
  clear R4
  have R5a := Lib.hid (R5.out.below hb4)
  clear R5
  have R6a := Lib.hid (R6.out.below hb4)
  clear R6
  have I4 := HI3.out.below hb4
  have Z4 := HZ3.out.below hb4
  obtain ⟨v4, hv4⟩ : ∃ v, v = w4.setCell ⟨w.heap.size, 7, none⟩ (.slice x7 r.kids.length y7) := ⟨_, rfl⟩
  have hvs4 : v4.heap.size = w4.heap.size := by subst hv4; simp
  have HI4 := Lib.hid (I4.set 7 (.slice x7 r.kids.length y7) (by simp))
  rw [← hv4] at HI4
  simp only [List.set] at HI4
  have HZ4 := Lib.hid (Z4.far (b' := w.heap.size) (j := 7) (v := (.slice x7 r.kids.length y7)) (by omega))
  rw [← hv4] at HZ4
  have HB4 : Hid (Below w.heap.size w v4) := by subst hv4; exact (HB3.out.trans (hb4.mono (by omega))).setCell (p := ⟨w.heap.size, 7, none⟩) (by simp) _
  have R4 := Lib.hid (R4a.out.setFar (c := w.heap.size) (i := 7) (v := (.slice x7 r.kids.length y7)) (by omega))
  rw [← hv4] at R4
  clear R4a
  have R5 := Lib.hid (R5a.out.setFar (c := w.heap.size) (i := 7) (v := (.slice x7 r.kids.length y7)) (by omega))
  rw [← hv4] at R5
  clear R5a
  have R6 := Lib.hid (R6a.out.setFar (c := w.heap.size) (i := 7) (v := (.slice x7 r.kids.length y7)) (by omega))
  rw [← hv4] at R6
  clear R6a
  have R7 := Lib.hid (hr4.setFar (c := w.heap.size) (i := 7) (v := (.slice x7 r.kids.length y7)) (by omega))
  rw [← hv4] at R7
  obtain ⟨o7, p7⟩ := I4 7 _ rfl
  obtain ⟨o0', -⟩ := I4 0 _ rfl
  obtain ⟨o1', -⟩ := I4 1 _ rfl
  obtain ⟨o2', -⟩ := I4 2 _ rfl
  obtain ⟨o3', -⟩ := I4 3 _ rfl
  obtain ⟨o4', -⟩ := I4 4 _ rfl
  obtain ⟨o5', -⟩ := I4 5 _ rfl
  obtain ⟨o6', -⟩ := I4 6 _ rfl
  obtain ⟨z0, t0⟩ := Z4 0 _ rfl
  obtain ⟨z1, t1⟩ := Z4 1 _ rfl
  obtain ⟨z2, t2⟩ := Z4 2 _ rfl
  obtain ⟨z3, t3⟩ := Z4 3 _ rfl
  obtain ⟨z4, t4⟩ := Z4 4 _ rfl
  obtain ⟨z5, t5⟩ := Z4 5 _ rfl
  obtain ⟨z6, t6⟩ := Z4 6 _ rfl
  obtain ⟨z7, t7⟩ := Z4 7 _ rfl
  have HK : Hid (KidOwn (w.heap.size + 2) r [.string r.name, .int .i64 r.kind, .int .i64 r.size, .bool r.little, .slice x4 r.bytes.length y4, .slice x5 r.names.length y5, .slice x6 r.tags.length y6, .slice x7 r.kids.length y7] v4) := by
    have q4 := HLi4.out
    have q5 := HLi5.out
    have q6 := HLi6.out
    refine ⟨v3.heap.size, _, by omega, by omega, rfl, ?_, ?_⟩
    · exact three_blks (p := v3.heap.size) q4 q5 q6 (by omega) (by omega) (by omega)
    · rw [hv4]; exact own_set ho7 (by omega)
  clear hr4 ho7 hb4 I4 Z4 HI3 HZ3 HI4 HZ4
  have hown : Hid (OwnRule w0.heap.size v4.heap.size r [.string r.name, .int .i64 r.kind, .int .i64 r.size, .bool r.little, .slice x4 r.bytes.length y4, .slice x5 r.names.length y5, .slice x6 r.tags.length y6, .slice x7 r.kids.length y7] v4) := by
    have q4 := HLi4.out
    have q5 := HLi5.out
    have q6 := HLi6.out
    have q7 := HLi7.out
    rw [hvs1] at q5
    rw [hvs2] at q6
    rw [hvs3] at q7
    rw [← hvs4] at q7
    exact ⟨x4, y4, x5, y5, x6, y6, x7, y7, rfl, R4.out, R5.out.more (by omega), R6.out.more (by omega), R7.out.more (by omega), four_blks q4 q5 q6 q7 (by omega) (by omega) (by omega) (by omega)⟩
  rw [hv4] at hown HB4 HK
  clear hv4
  go_wp2
  (try simp only [Exit.inBlock, Exit.then])
  refine bodyPost_ret (v := .agg #[.string r.name, .int .i64 r.kind, .int .i64 r.size, .bool r.little, .slice x4 r.bytes.length y4, .slice x5 r.names.length y5, .slice x6 r.tags.length y6, .slice x7 r.kids.length y7]) ?_ rfl ?_
  · simp [results, Try.results34, go_sem, z0, z1, z2, z3, z4, z5, z6, z7]
  · exact ⟨_, rfl, ((((((((hown.out.setFar (c := w.heap.size + 1) (by omega)).setFar (c := w.heap.size + 1) (by omega)).setFar (c := w.heap.size + 1) (by omega)).setFar (c := w.heap.size + 1) (by omega)).setFar (c := w.heap.size + 1) (by omega)).setFar (c := w.heap.size + 1) (by omega)).setFar (c := w.heap.size + 1) (by omega)).setFar (c := w.heap.size + 1) (by omega)).more (by omega) (by simp), ((((((((HB4.out.setCell (p := ⟨w.heap.size + 1, 0, none⟩) (by simp) _).setCell (p := ⟨w.heap.size + 1, 1, none⟩) (by simp) _).setCell (p := ⟨w.heap.size + 1, 2, none⟩) (by simp) _).setCell (p := ⟨w.heap.size + 1, 3, none⟩) (by simp) _).setCell (p := ⟨w.heap.size + 1, 4, none⟩) (by simp) _).setCell (p := ⟨w.heap.size + 1, 5, none⟩) (by simp) _).setCell (p := ⟨w.heap.size + 1, 6, none⟩) (by simp) _).setCell (p := ⟨w.heap.size + 1, 7, none⟩) (by simp) _), (kid_set (kid_set (kid_set (kid_set (kid_set (kid_set (kid_set (kid_set HK.out)))))))).more (by omega)⟩
set_option maxRecDepth 100000 in
set_option maxHeartbeats 2000000 in
theorem copy_kid (i : Nat) (a : Option Addr) (rs : List RuleV) (cap : Nat) (w : World) (hir : i < rs.length) (hl : rs.length ≤ 1048576) (hs : ∀ r ∈ rs, Short r) (h : RdR a rs w) :
    Calls Try.prog 13 #[.agg #[.slice a rs.length cap]] w (DescrOutK rs i hir w) := by
  have HS := Lib.hid hs
  obtain ⟨w0, hw0⟩ : ∃ w0, w0 = (w.alloc (.cells #[.slice a rs.length cap] 26)).alloc (.cells #[.slice none 0 0] 26) := ⟨_, rfl⟩
  have hz0 : w0.heap.size = w.heap.size + 2 := by subst hw0; simp
  have hB0 : Below w.heap.size w w0 := by
    subst hw0
    exact ((Below.refl _ w).alloc (Nat.le_refl _) _).alloc (by simp) _
  have hX0 : CellsAt w.heap.size [.slice a rs.length cap] w0 := by subst hw0; exact (CellsAt.new w _ _).below ((Below.refl _ _).alloc (Nat.le_refl _) _)
  have Z0 : CellsAt (w.heap.size + 1) [.slice none 0 0] w0 := by
    subst hw0
    have h1 := CellsAt.new (w.alloc (.cells #[.slice a rs.length cap] 26)) [.slice none 0 0] 26
    simpa using h1
  have HB0 := Lib.hid hB0
  have HZ0 := Lib.hid Z0
  have H := Lib.hid (h.below hB0)
  have hW := Lib.hid hw0
  have hmk := make_rules rs.length (by omega) w0
  rw [hw0] at hmk
  have bx := (hX0.below (w' := w0.alloc (.cells (madeCells #[.string ⟨#[]⟩, .int .i64 0, .int .i64 0, .bool false, .slice none 0 0, .slice none 0 0, .slice none 0 0, .slice none 0 0] (rs.length * 8)) 35)) ((Below.refl _ _).alloc (Nat.le_refl _) _) 0 _ rfl).1
  rw [hw0] at bx
  clear hB0 Z0 h hs hX0 hw0
  go_enter Try.func13, Try.ntmps13
  go_wp2
  clear hmk bx
  rw [← hW.out, show w.heap.size + 1 + 1 = w0.heap.size from by omega]
  have HZS := Lib.hid hz0
  clear hz0
  go_loopw [13] (fun v W => ∃ k : Nat, k ≤ rs.length ∧ v = .int .i64 k ∧ Hid (HalfR rs k w0.heap.size w0 W) ∧ Hid (i < k → KidFar rs[i] i w0.heap.size k W)) (fun i _ => rs.length - (intOf i).toNat)
  case atStart => exact ⟨0, Nat.zero_le _, rfl, HalfR.start rs _ w0, fun h => absurd h (Nat.not_lt_zero _)⟩
  case round =>
    obtain ⟨k, hk, rfl, hh, hkf⟩ := hrel
    have k0 : (0 : Int) ≤ (k : Int) := by omega
    by_cases hlt : k < rs.length
    · have k1 : (k : Int) < (rs.length : Int) := by omega
      have hsh := Lib.hid (HS.out _ (List.getElem_mem hlt))
      obtain ⟨b, off, a4, c4, a5, c5, a6, c6, a7, c7, rfl, ⟨d0, d1, d2, d3, d4, d5, d6, d7⟩, h4, h5, h6, h7⟩ := (H.out.below hh.out.1).at k hlt
      have HR : Hid (IsRule rs[k] [.string rs[k].name, .int .i64 rs[k].kind, .int .i64 rs[k].size, .bool rs[k].little, .slice a4 rs[k].bytes.length c4, .slice a5 rs[k].names.length c5, .slice a6 rs[k].tags.length c6, .slice a7 rs[k].kids.length c7] wr) := ⟨a4, c4, a5, c5, a6, c6, a7, c7, rfl, h4, h5, h6, h7⟩
      have hnext := fun cs W1 => Lib.hid (hh.out.next (W1 := W1) (cs := cs) (Nat.le_refl _) hlt)
      have hfar := fun cs W1 => Lib.hid (fun hb hr ho => KidFar.next (cs := cs) (W1 := W1) hh.out hlt hir hb hr ho hkf.out)
      clear h4 h5 h6 h7
      generalize rs[k] = r at d0 d1 d2 d3 d4 d5 d6 d7 HR hsh hnext hfar
      obtain ⟨W2, hW2⟩ : ∃ W2, W2 = wr.alloc (.cells #[.string r.name, .int .i64 r.kind, .int .i64 r.size, .bool r.little, .slice a4 r.bytes.length c4, .slice a5 r.names.length c5, .slice a6 r.tags.length c6, .slice a7 r.kids.length c7] 35) := ⟨_, rfl⟩
      have hb2 : Below wr.heap.size wr W2 := by subst hW2; exact (Below.refl _ _).alloc (Nat.le_refl _) _
      have hs2 : Hid (W2.heap.size = wr.heap.size + 1) := by subst hW2; exact World.size_alloc _ _
      have HR2 := Lib.hid (HR.out.below hb2)
      have HB2 := Lib.hid hb2
      clear hb2 HR
      go_wp2_with fail
      rw [← hW2]
      clear hW2
      refine (copyrule_kid r _ _ hsh.out HR2.out).mono ?_
      rintro e w1 ⟨cs, rfl, hown, hb1, hko⟩
      have hb12 : Below wr.heap.size wr w1 := HB2.out.trans (hb1.mono (by have := hs2.out; omega))
      have hN := Lib.hid ((hnext cs w1).out hb12 (hown.more (by have := hs2.out; omega) (Nat.le_refl _)))
      have hF := Lib.hid ((hfar cs w1).out hb12 (hown.more (by have := hs2.out; omega) (Nat.le_refl _)) (hko.more (by have := hs2.out; omega)))
      obtain ⟨_, hlt2, css, hcl, _, _, hfz, hzz, _⟩ := hh.out
      have zc := fun i v hv => (hb12.cell (p := ⟨w0.heap.size, k * 8 + i, none⟩) hlt2).trans (hzz k (Nat.le_refl _) hlt i v hv)
      have fc := fun i (hi : i < 8) => (hb12.frozen (p := ⟨w0.heap.size, k * 8 + i, none⟩) hlt2).trans (hfz (k * 8 + i) (by omega))
      have z0 := zc 0 _ rfl
      have z1 := zc 1 _ rfl
      have z2 := zc 2 _ rfl
      have z3 := zc 3 _ rfl
      have z4 := zc 4 _ rfl
      have z5 := zc 5 _ rfl
      have z6 := zc 6 _ rfl
      have z7 := zc 7 _ rfl
      have f0 := fc 0 (by omega)
      have f1 := fc 1 (by omega)
      have f2 := fc 2 (by omega)
      have f3 := fc 3 (by omega)
      have f4 := fc 4 (by omega)
      have f5 := fc 5 (by omega)
      have f6 := fc 6 (by omega)
      have f7 := fc 7 (by omega)
      rw [Nat.add_zero] at z0 f0
      obtain ⟨x4, y4, x5, y5, x6, y6, x7, y7, rfl, -⟩ := hown
      clear hb1 hb12 zc fc hfz hzz hnext hfar hko hkf d0 d1 d2 d3 d4 d5 d6 d7 HR2 HB2 hh
      go_wp2
      go_roundw
      case rel => exact ⟨k + 1, by omega, by go_num, hN, hF⟩
      case measure => simp [intOf]; omega
    · have k1 : ¬ (k : Int) < (rs.length : Int) := by omega
      obtain rfl : k = rs.length := by omega
      have R := Lib.hid hh.out.end
      have F := Lib.hid (hkf.out hir)
      have hbw := hh.out.1
      have HBW := Lib.hid hbw
      obtain ⟨z0, t0⟩ := (HZ0.out.below hbw) 0 _ rfl
      have hsw := hbw.size
      clear hh hbw
      go_wp2
      (try simp only [Exit.inBlock, Exit.then])
      refine bodyPost_ret (v := .agg #[.slice (some ⟨w0.heap.size, 0, none⟩) rs.length rs.length]) ?_ rfl ?_
      · simp [results, Try.results13, go_sem, z0]
      · exact ⟨_, rfl, (R.out.setFar (c := w.heap.size + 1) (by have := HZS.out; omega)).more (by have := HZS.out; omega) (by simp), (HB0.out.trans (HBW.out.mono (by have := HZS.out; omega))).setCell (p := ⟨w.heap.size + 1, 0, none⟩) (by simp) _, F.out.setFar (by have := HZS.out; omega)⟩
end Go.Proofs.Ytkegjgfggijinaa
