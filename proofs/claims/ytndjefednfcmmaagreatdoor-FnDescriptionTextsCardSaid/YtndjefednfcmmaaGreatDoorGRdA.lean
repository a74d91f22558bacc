/- Appending one element to a slice without spare room: always new memory. Contracts of slices.Clip and of the program's appendFresh. Contracts of the program's appendFresh at rules and of withRule: the description with one rule more, its rules in new memory. Contracts of the program's withRule, of FormatRule at any rule and of acceptRule. Contracts of the program's takeLabel and canBeNext. Contracts of the program's takeLabel and canBeNext. What the program's parseKids and parseRest promise behind a valid description; parseRest, out of parseKids at shorter texts. The contract of the program's parseKids, behind a valid description, by induction on the text. -/
import Derived.Test.YtndjefednfcmmaaGreatDoorClone
import Derived.Test.YtndjefednfcmmaaGreatDoorRowR
import Derived.Deep.CutRange
import Derived.Test.YtndjefednfcmmaaGreatDoorGFields
import Derived.Test.YtndjefednfcmmaaGreatDoorGWr
import Derived.Deep.RegionHeld3
import Derived.Test.YtndjefednfcmmaaGreatDoorGPar
import Derived.Test.YtndjefednfcmmaaGreatDoorGLin
import Derived.Test.YtndjefednfcmmaaGreatDoorGFnd
set_option maxRecDepth 100000
namespace Go.Proofs.YtndjefednfcmmaaGreatDoor
open Go Go.RowKit
theorem run_fresh {P : Program} (t ty e : TypeId) (i : TypeInfo) (z : Value) (size bytes : Nat) (ht : P.underlying t = some (.slice e)) (hi : P.info? e = some i) (hz : i.zero = some z) (hsize : i.size = size) (hby : i.bytes = bytes) (hzs : z.cells.size = size)
    (a : Option Addr) (n : Nat) (olds cs : List Value) (w : World) (hlo : olds.length = n * size) (hlc : cs.length = size) (hn : a = none → n = 0) (holds : ∀ ad, a = some ad → ∀ j v, olds[j]? = some v → w.cell? (ad.add j) = some v)
    (h63 : n + 1 ≤ maxLen) (hbytes : (n + 1) * bytes ≤ 140737488355328) :
    ∃ c' w', (Builtin.append_ #[t, t] ty #[.slice a n n, .slice (some ⟨w.heap.size, 0, none⟩) 1 1]).run P (w.alloc (.cells cs.toArray e)) = .ok (.slice (some ⟨w.heap.size + 1, 0, none⟩) (n + 1) c') w' ∧
      w'.ownsRow (w.heap.size + 1) e size (.slice (some ⟨w.heap.size + 1, 0, none⟩) (n + 1) c') (n + 1) (olds ++ cs) ∧ Below w.heap.size w w' := by
  subst hsize
  subst hby
  have hsmall : n + 1 ≤ 9223372036854775807 := by simp only [maxLen] at h63; omega
  obtain ⟨v, hv⟩ : ∃ v, v = w.alloc (.cells cs.toArray e) := ⟨_, rfl⟩
  have hvs : v.heap.size = w.heap.size + 1 := by rw [hv]; simp
  have hvb : Below w.heap.size w v := by rw [hv]; exact (Below.refl _ _).alloc (Nat.le_refl _) _
  have hnews : ∀ j u, cs[j]? = some u → v.cell? ((⟨w.heap.size, 0, none⟩ : Addr).add j) = some u := fun j u hj => by
    rw [hv, Addr.add_lit, Nat.zero_add]
    refine (World.cell?_alloc_mark w cs.toArray _ (0, 0) j).trans ?_
    simpa using hj
  have hlen : (olds ++ cs).length = (n + 1) * i.size := by rw [List.length_append, hlo, hlc, Nat.add_mul, Nat.one_mul]
  have grown : ∀ (old : Nat), (v.drew.alloc (.cells (olds.toArray ++ cs.toArray ++ Builtin.zeroCells z.cells (grownCap v (n + 1) old e - (n + 1))) e)).ownsRow (w.heap.size + 1) e i.size
        (.slice (some ⟨v.heap.size, 0, none⟩) (n + 1) (grownCap v (n + 1) old e)) (n + 1) (olds ++ cs) := by
    intro old
    have hge := grownCap_ge v (n + 1) old e
    have hcm : grownCap v (n + 1) old e ≤ maxLen := grownCap_le_maxLen v (n + 1) old e h63
    refine ⟨hlen, .inr ⟨v.heap.size, _, _, rfl, by omega, heap_alloc_new v.drew _, hge, hcm, ?_, ?_⟩⟩
    · simp only [Array.size_append, List.size_toArray, size_zeroCells, hzs, hlo, hlc]
      rw [← Nat.succ_mul, ← Nat.add_mul]
      congr 1
      omega
    · simp only [Array.toList_append, List.append_assoc]
      rw [← List.append_assoc, ← hlen]
      exact List.take_left
  have hbelow : ∀ o : Obj, Below w.heap.size w (v.drew.alloc o) := fun o => (below_drewN hvb 1).alloc (show w.heap.size ≤ v.heap.size by omega) o
  rw [← hv]
  rcases a with _ | ad
  · obtain rfl := hn rfl
    have hx : olds = [] := List.eq_nil_of_length_eq_zero (by simpa using hlo)
    subst hx
    have hr := run_append_nil (P := P) v t ty e i z ht hi hz ⟨w.heap.size, 0, none⟩ 1 1 cs (by omega) hnews (by omega) (by omega) (by have hb := hbytes; simp only [Nat.zero_add] at hb; omega)
    have hg := grown 0
    simp only [Nat.zero_add, List.nil_append, Array.empty_append] at hg ⊢
    rw [hvs] at hg hr
    exact ⟨_, _, hr, hg, hbelow _⟩
  · have hr := run_append_grow (P := P) v t ty e i z ht hi hz ad n n olds hlo (fun j u hj => (hvb.cell (cell_lt (holds ad rfl j u hj))).trans (holds ad rfl j u hj)) ⟨w.heap.size, 0, none⟩ 1 1 cs (by omega) hnews (by omega) (by omega) (growslice_fits (by omega) hbytes)
    have hg := grown n
    rw [hvs] at hg hr
    exact ⟨_, _, hr, hg, hbelow _⟩
theorem wp_fresh {P : Program} (t e : TypeId) (i : TypeInfo) (z : Value) (size bytes : Nat) (ht : P.underlying t = some (.slice e)) (hi : P.info? e = some i) (hz : i.zero = some z) (hsize : i.size = size) (hby : i.bytes = bytes) (hzs : z.cells.size = size)
  {ops : Array Oper} {rest : List Oper} {o : Oper} {A : Act} {Q : Exit → Act → World → Prop} (hgd : o.guard = none) (s x : Operand)
  (ho : o.op = .call { callee := .builtin .append, args := #[s, x], argTypes := #[t, t] })
  (a : Option Addr) (n : Nat) (olds cs : List Value) (w : World) (hsv : A.eval s = .slice a n n) (hxv : A.eval x = .slice (some ⟨w.heap.size, 0, none⟩) 1 1)
  (hlo : olds.length = n * size) (hlc : cs.length = size) (hn : a = none → n = 0) (holds : ∀ ad, a = some ad → ∀ j v, olds[j]? = some v → w.cell? (ad.add j) = some v)
  (h63 : n + 1 ≤ maxLen) (hbytes : (n + 1) * bytes ≤ 140737488355328)
  (h : ∀ c' w', w'.ownsRow (w.heap.size + 1) e size (.slice (some ⟨w.heap.size + 1, 0, none⟩) (n + 1) c') (n + 1) (olds ++ cs) → Below w.heap.size w w' → wpList P ops Q rest (A.put o.dst (.slice (some ⟨w.heap.size + 1, 0, none⟩) (n + 1) c')) w') :
  wpList P ops Q (o :: rest) A (w.alloc (.cells cs.toArray e)) := by
 refine wpList_plain hgd fun K hK => ?_
 obtain ⟨c', w', hr, h2, h3⟩ := run_fresh (P := P) t o.type e i z size bytes ht hi hz hsize hby hzs a n olds cs w hlo hlc hn holds h63 hbytes
 unfold Oper.wp
 simp [execOp, ho, resolve, invoke, builtin, hsv, hxv, hr, Result.andThen]
 exact hK _ _ (h c' w' h2 h3)
theorem clip_int (a : Option Addr) (n cap : Nat) (w : World) (h : n ≤ cap) (hn : a = none → cap = 0) (_hm : n ≤ 1048576) :
  Calls Tryz.prog 158 #[.slice a n cap] w fun e w' => e = .returned (.slice a n n) ∧ w = w' := by
 have h1 : (n : Int) ≤ (cap : Int) := by omega
 have h0 : (0 : Int) ≤ (n : Int) := by omega
 rcases a with _ | ad
 ·obtain rfl := hn rfl
  obtain rfl : n = 0 := by omega
  go_enter Tryz.func158, Tryz.ntmps158
  go_wp2
  go_ret
  exact ⟨rfl, rfl⟩
 ·go_enter Tryz.func158, Tryz.ntmps158
  go_wp2
  go_ret
  exact ⟨rfl, rfl⟩
theorem clip_str (a : Option Addr) (n cap : Nat) (w : World) (h : n ≤ cap) (hn : a = none → cap = 0) (_hm : n ≤ 1048576) :
  Calls Tryz.prog 174 #[.slice a n cap] w fun e w' => e = .returned (.slice a n n) ∧ w = w' := by
 have h1 : (n : Int) ≤ (cap : Int) := by omega
 have h0 : (0 : Int) ≤ (n : Int) := by omega
 rcases a with _ | ad
 ·obtain rfl := hn rfl
  obtain rfl : n = 0 := by omega
  go_enter Tryz.func174, Tryz.ntmps174
  go_wp2
  go_ret
  exact ⟨rfl, rfl⟩
 ·go_enter Tryz.func174, Tryz.ntmps174
  go_wp2
  go_ret
  exact ⟨rfl, rfl⟩
theorem clip_rule (a : Option Addr) (n cap : Nat) (w : World) (h : n ≤ cap) (hn : a = none → cap = 0) (_hm : n ≤ 1048576) :
  Calls Tryz.prog 123 #[.slice a n cap] w fun e w' => e = .returned (.slice a n n) ∧ w = w' := by
 have h1 : (n : Int) ≤ (cap : Int) := by omega
 have h0 : (0 : Int) ≤ (n : Int) := by omega
 rcases a with _ | ad
 ·obtain rfl := hn rfl
  obtain rfl : n = 0 := by omega
  go_enter Tryz.func123, Tryz.ntmps123
  go_wp2
  go_ret
  exact ⟨rfl, rfl⟩
 ·go_enter Tryz.func123, Tryz.ntmps123
  go_wp2
  go_ret
  exact ⟨rfl, rfl⟩
theorem rd_olds {α : Type} {f : α → Value} {a : Option Addr} {xs : List α} {w : World} (h : RdF f a xs w) : ∀ ad, a = some ad → ∀ j v, (xs.map f)[j]? = some v → w.cell? (ad.add j) = some v := fun ad ha j v hj => by
 have hj2 : j < xs.length := by
  rcases Nat.lt_or_ge j xs.length with h1 | h1
  ·exact h1
  ·rw [List.getElem?_eq_none (by simpa using h1)] at hj; cases hj
 obtain ⟨b, off, e, hc⟩ := h j hj2
 rw [ha] at e
 injection e with e
 subst e
 rw [List.getElem?_map, List.getElem?_eq_getElem hj2] at hj
 simp only [Option.map_some, Option.some.injEq] at hj
 subst hj
 rw [Addr.add_lit]
 exact hc
def FreshOut {α : Type} (f : α → Value) (xs : List α) (w : World) (e : Ending) (w' : World) : Prop :=
 ∃ b c, e = .returned (.slice (some ⟨b, 0, none⟩) xs.length c) ∧ w.heap.size ≤ b ∧ RowF f b (some ⟨b, 0, none⟩) xs c w' ∧ Below w.heap.size w w'
theorem fresh_of {α : Type} {f : α → Value} {t : TypeId} {xs : List α} {x : α} {c : Nat} {w w' : World} (ho : w'.ownsRow (w.heap.size + 1) t 1 (.slice (some ⟨w.heap.size + 1, 0, none⟩) (xs.length + 1) c) (xs.length + 1) (xs.map f ++ [f x])) (hb : Below w.heap.size w w') :
  FreshOut f (xs ++ [x]) w (.returned (.slice (some ⟨w.heap.size + 1, 0, none⟩) (xs.length + 1) c)) w' := by
 have e : (xs ++ [x]).length = xs.length + 1 := by simp
 obtain ⟨a', c', e1, hrow⟩ := own_row (f := f) (base := w.heap.size + 1) (t := t) (v := .slice (some ⟨w.heap.size + 1, 0, none⟩) (xs.length + 1) c) (xs := xs ++ [x]) (w := w') (by rw [e, List.map_append]; exact ho)
 injection e1 with q1 q2 q3
 subst q1 q3
 exact ⟨w.heap.size + 1, c, by rw [e], by omega, hrow, hb⟩
theorem fresh_int (a : Option Addr) (xs : List Int) (cap : Nat) (x : Int) (w : World) (hl : xs.length ≤ 1048576) (hc : xs.length ≤ cap) (hn : a = none → cap = 0) (h : RdF (Value.int .i64) a xs w) :
  Calls Tryz.prog 140 #[.slice a xs.length cap, .int .i64 x] w (FreshOut (Value.int .i64) (xs ++ [x]) w) := by
 obtain ⟨i0, hi, hz0, hz1, hz2⟩ := infoPartsI
 have HR := Lib.hid (rd_olds h)
 have HF := fun c w' => Lib.hid (fresh_of (f := Value.int .i64) (t := 3) (xs := xs) (x := x) (c := c) (w := w) (w' := w'))
 clear h
 go_enter Tryz.func140, Tryz.ntmps140
 go_wp2_with fail
 refine (clip_int a xs.length cap w hc hn hl).mono ?_
 rintro e w1 ⟨rfl, rfl⟩
 go_wp2_with (at_builtin; refine wp_fresh 57 3 i0 (.int .i64 0) 1 8 Tryz.underlying57 hi hz0 hz1 hz2 rfl rfl _ _ rfl a xs.length (xs.map (Value.int .i64)) [.int .i64 x] w rfl rfl (by simp) rfl (fun e => by have := hn e; omega) HR.out (by unfold maxLen; omega) (by omega) ?_)
 intro c' w2 ho hb
 have R := Lib.hid ((HF c' w2).out ho hb)
 clear ho hb HF
 go_wp2
 go_ret
 exact R.out
theorem fresh_str (a : Option Addr) (xs : List ByteArray) (cap : Nat) (x : ByteArray) (w : World) (hl : xs.length ≤ 1048576) (hc : xs.length ≤ cap) (hn : a = none → cap = 0) (h : RdF Value.string a xs w) :
  Calls Tryz.prog 155 #[.slice a xs.length cap, .string x] w (FreshOut Value.string (xs ++ [x]) w) := by
 obtain ⟨i0, hi, hz0, hz1, hz2⟩ := infoPartsS
 have HR := Lib.hid (rd_olds h)
 have HF := fun c w' => Lib.hid (fresh_of (f := Value.string) (t := 9) (xs := xs) (x := x) (c := c) (w := w) (w' := w'))
 clear h
 go_enter Tryz.func155, Tryz.ntmps155
 go_wp2_with fail
 refine (clip_str a xs.length cap w hc hn hl).mono ?_
 rintro e w1 ⟨rfl, rfl⟩
 go_wp2_with (at_builtin; refine wp_fresh 51 9 i0 (.string ⟨#[]⟩) 1 16 Tryz.underlying51 hi hz0 hz1 hz2 rfl rfl _ _ rfl a xs.length (xs.map Value.string) [.string x] w rfl rfl (by simp) rfl (fun e => by have := hn e; omega) HR.out (by unfold maxLen; omega) (by omega) ?_)
 intro c' w2 ho hb
 have R := Lib.hid ((HF c' w2).out ho hb)
 clear ho hb HF
 go_wp2
 go_ret
 exact R.out
def CellsR (a : Option Addr) (css : List (List Value)) (w : World) : Prop :=
 (∀ cs ∈ css, cs.length = 8) ∧ ∀ j (h : j < css.length), ∃ b off, a = some ⟨b, off, none⟩ ∧ ∀ i v, css[j][i]? = some v → w.cell? ⟨b, off + j * 8 + i, none⟩ = some v
def RowsOut (css : List (List Value)) (w : World) (b c : Nat) (w' : World) : Prop :=
 w.heap.size ≤ b ∧ b < w'.heap.size ∧ css.length ≤ c ∧ (∀ j (h : j < css.length) i v, css[j][i]? = some v → w'.cell? ⟨b, 0 + j * 8 + i, none⟩ = some v ∧ w'.frozen? ⟨b, 0 + j * 8 + i, none⟩ = false) ∧ Below w.heap.size w w'
theorem cells_olds {a : Option Addr} {css : List (List Value)} {w : World} (h : CellsR a css w) : ∀ ad, a = some ad → ∀ j v, css.flatten[j]? = some v → w.cell? (ad.add j) = some v := fun ad ha j v hj => by
 have hlen : css.flatten.length = css.length * 8 := by
  have : ∀ (l : List (List Value)), (∀ cs ∈ l, cs.length = 8) → l.flatten.length = l.length * 8 := fun l => by
   induction l with
   | nil => intro _; rfl
   | cons c l ih =>
    intro h
    rw [List.flatten_cons, List.length_append, ih (fun c hc => h c (by simp [hc])), h c (by simp), List.length_cons]
    omega
  exact this css h.1
 have hj2 : j < css.length * 8 := by
  rcases Nat.lt_or_ge j (css.length * 8) with h1 | h1
  ·exact h1
  ·rw [List.getElem?_eq_none (by omega)] at hj; cases hj
 have e : j = j / 8 * 8 + j % 8 := by omega
 rw [e, flat_at h.1 (j / 8) (j % 8) (by omega) (by omega)] at hj
 obtain ⟨b, off, e1, hc⟩ := h.2 (j / 8) (by omega)
 rw [ha] at e1
 injection e1 with e1
 subst e1
 rw [Addr.add_lit]
 have := hc _ _ hj
 rwa [Nat.add_assoc, ← e] at this
theorem flat_len {css : List (List Value)} (h : ∀ cs ∈ css, cs.length = 8) : css.flatten.length = css.length * 8 := by
 induction css with
 | nil => rfl
 | cons c l ih =>
  rw [List.flatten_cons, List.length_append, ih (fun c hc => h c (by simp [hc])), h c (by simp), List.length_cons]
  omega
theorem rows_of {css : List (List Value)} {cs : List Value} {c n : Nat} {w w' : World} (h8 : ∀ cs ∈ css, cs.length = 8) (hcs : cs.length = 8) (hn : n = css.length)
  (ho : w'.ownsRow (w.heap.size + 1) 59 8 (.slice (some ⟨w.heap.size + 1, 0, none⟩) (n + 1) c) (n + 1) (css.flatten ++ cs)) (hb : Below w.heap.size w w') : RowsOut (css ++ [cs]) w (w.heap.size + 1) c w' := by
 subst hn
 have h8' : ∀ c ∈ css ++ [cs], c.length = 8 := fun c hc => by
  rcases List.mem_append.1 hc with hc | hc
  ·exact h8 c hc
  ·rw [List.mem_singleton] at hc; rw [hc]; exact hcs
 have h0 := ho
 rcases ho.2 with ⟨e, _⟩ | ⟨g, cap, cur, e, hbs, hg, hnc, hcm, hcz, ht⟩
 ·cases e
 ·injection e with e1 e2 e3
  injection e1 with e1
  injection e1 with e1
  subst e1 e3
  refine ⟨by omega, (World.ownsRow.lt h0 _ rfl).2, by simpa using hnc, fun j hj i v hv => ?_, hb⟩
  have hi : i < 8 := by
   have := h8' _ (List.getElem_mem hj)
   rcases Nat.lt_or_ge i 8 with h | h
   ·exact h
   ·rw [List.getElem?_eq_none (by omega)] at hv; cases hv
  have hj3 : j < css.length + 1 := by simpa using hj
  refine ⟨?_, by exact h0.frozenAt _⟩
  rw [Nat.zero_add, h0.cellAt (j * 8 + i) (by
   have : (j + 1) * 8 ≤ (css.length + 1) * 8 := Nat.mul_le_mul_right 8 (by omega)
   omega)]
  have hf : css.flatten ++ cs = (css ++ [cs]).flatten := by simp
  rw [hf, flat_at h8' j i hj hi]
  exact hv
theorem CellsR.below {a : Option Addr} {css : List (List Value)} {w w' : World} (h : CellsR a css w) (hb : Below w.heap.size w w') : CellsR a css w' := ⟨h.1, fun j hj => by
 obtain ⟨b, off, e, hc⟩ := h.2 j hj
 exact ⟨b, off, e, fun i v hv => (hb.cell (cell_lt (hc i v hv))).trans (hc i v hv)⟩⟩
theorem RowsOut.from {css : List (List Value)} {w0 w w' : World} {b c : Nat} (h : RowsOut css w b c w') (hb : Below w0.heap.size w0 w) : RowsOut css w0 b c w' := by
 obtain ⟨h1, h2, h3, h4, h5⟩ := h
 exact ⟨Nat.le_trans hb.size h1, h2, h3, h4, hb.trans (h5.mono hb.size)⟩
theorem step_fresh {P : Program} (t e : TypeId) (i : TypeInfo) (z : Value) (size bytes : Nat) (ht : P.underlying t = some (.slice e)) (hi : P.info? e = some i) (hz : i.zero = some z) (hsize : i.size = size) (hby : i.bytes = bytes) (hzs : z.cells.size = size)
  {ops : Array Oper} {o : Oper} {A : Act} {K : Act → World → Prop} {Q : Exit → Act → World → Prop} {E : Prop} (hgd : o.guard = none) (s x : Operand)
  (ho : o.op = .call { callee := .builtin .append, args := #[s, x], argTypes := #[t, t] })
  (a : Option Addr) (n : Nat) (olds cs : List Value) (w : World) (hsv : A.eval s = .slice a n n) (hxv : A.eval x = .slice (some ⟨w.heap.size, 0, none⟩) 1 1)
  (hlo : olds.length = n * size) (hlc : cs.length = size) (hn : a = none → n = 0) (holds : ∀ ad, a = some ad → ∀ j v, olds[j]? = some v → w.cell? (ad.add j) = some v)
  (h63 : n + 1 ≤ maxLen) (hbytes : (n + 1) * bytes ≤ 140737488355328)
  (h : ∀ c' w', w'.ownsRow (w.heap.size + 1) e size (.slice (some ⟨w.heap.size + 1, 0, none⟩) (n + 1) c') (n + 1) (olds ++ cs) → Below w.heap.size w w' → K (A.put o.dst (.slice (some ⟨w.heap.size + 1, 0, none⟩) (n + 1) c')) w') :
  if Region.wanted o (yielded ops A.tmps) = true then Oper.wp P o A (w.alloc (.cells cs.toArray e)) K Q else E := by
 have hw : Region.wanted o (yielded ops A.tmps) = true := by simp [Region.wanted, hgd]
 rw [if_pos hw]
 obtain ⟨c', w', hr, h2, h3⟩ := run_fresh (P := P) t o.type e i z size bytes ht hi hz hsize hby hzs a n olds cs w hlo hlc hn holds h63 hbytes
 unfold Oper.wp
 simp [execOp, ho, resolve, invoke, builtin, hsv, hxv, hr, Result.andThen]
 exact h c' w' h2 h3
set_option maxHeartbeats 1000000 in
theorem fresh_rule (a : Option Addr) (css : List (List Value)) (n cap : Nat) (v0 v1 v2 v3 v4 v5 v6 v7 : Value) (w : World) (hnl : n = css.length) (hl : n ≤ 1048576) (hc : n ≤ cap) (hn : a = none → cap = 0) (h : CellsR a css w)
  (h1 : ∀ u ∈ [v0, v1, v2, v3, v4, v5, v6, v7], u.oneCell' = true) :
  Calls Tryz.prog 94 #[.slice a n cap, .agg #[v0, v1, v2, v3, v4, v5, v6, v7]] w fun e w' => ∃ b c, e = .returned (.slice (some ⟨b, 0, none⟩) (n + 1) c) ∧ RowsOut (css ++ [[v0, v1, v2, v3, v4, v5, v6, v7]]) w b c w' := by
 obtain ⟨i0, hi, hh⟩ := Option.map_eq_some_iff.1 infoRule
 simp only [Prod.mk.injEq] at hh
 obtain ⟨hz0, hz1, hz2⟩ := hh
 obtain ⟨w0, hw0⟩ : ∃ w0, w0 = w.alloc (.cells #[v0, v1, v2, v3, v4, v5, v6, v7] 59) := ⟨_, rfl⟩
 have hB0 : Below w.heap.size w w0 := by subst hw0; exact (Below.refl _ _).alloc (Nat.le_refl _) _
 have hX : CellsAt w.heap.size [v0, v1, v2, v3, v4, v5, v6, v7] w0 := by subst hw0; exact CellsAt.new w _ _
 have hBd : Below w.heap.size w w0.drew := below_drewN hB0 1
 have HO := Lib.hid (cells_olds (h.below hBd))
 have HL : Hid (css.flatten.length = n * 8) := by show _ = _; rw [hnl]; exact flat_len h.1
 have HF := fun c w' => Lib.hid (fun ho hb => (rows_of (cs := [v0, v1, v2, v3, v4, v5, v6, v7]) (c := c) (w := w0.drew) (w' := w') h.1 rfl hnl ho hb).from hBd)
 have x0 := (hX 0 _ rfl).1
 have x1 := (hX 1 _ rfl).1
 have x2 := (hX 2 _ rfl).1
 have x3 := (hX 3 _ rfl).1
 have x4 := (hX 4 _ rfl).1
 have x5 := (hX 5 _ rfl).1
 have x6 := (hX 6 _ rfl).1
 have x7 := (hX 7 _ rfl).1
 have o0 := h1 v0 (by simp)
 have o1 := h1 v1 (by simp)
 have o2 := h1 v2 (by simp)
 have o3 := h1 v3 (by simp)
 have o4 := h1 v4 (by simp)
 have o5 := h1 v5 (by simp)
 have o6 := h1 v6 (by simp)
 have o7 := h1 v7 (by simp)
 have HW := Lib.hid hw0
 clear h h1 hB0 hBd hX hw0 hnl
 go_enter Tryz.func94, Tryz.ntmps94
 go_upto_region 1 with fail
 rw [← HW.out]
 clear HW
 go_region_law (first | (go_simp; go_at_call 123; refine (clip_rule a n cap _ hc hn hl).mono ?_; rintro e w5 ⟨rfl, rfl⟩) | (refine step_fresh 24 59 i0 _ 8 136 Tryz.underlying24 hi hz0 hz1 hz2 rfl (by rfl) (.tmp 6) (.tmp 8) (by rfl) a n css.flatten [v0, v1, v2, v3, v4, v5, v6, v7] w0.drew (by simp [Act.eval]) (by simp [Act.eval]) HL.out rfl (fun e => by have := hn e; omega) HO.out (by unfold maxLen; omega) (by omega) ?_; intro c' w7 ho hb; have R := Lib.hid ((HF c' w7).out ho hb); clear ho hb))
 all_goals go_wp2
 all_goals go_ret
 all_goals exact ⟨_, _, rfl, R.out⟩
theorem RowsOut.setFar {css : List (List Value)} {w w' : World} {b c x i : Nat} {v : Value} (h : RowsOut css w b c w') (h1 : w.heap.size ≤ x) (h2 : x < b) : RowsOut css w b c (w'.setCell ⟨x, i, none⟩ v) := by
 obtain ⟨q1, q2, q3, q4, q5⟩ := h
 refine ⟨q1, by simpa using q2, q3, fun j hj k u hu => ?_, q5.setCell (p := ⟨x, i, none⟩) h1 _⟩
 obtain ⟨p1, p2⟩ := q4 j hj k u hu
 exact ⟨(World.cell?_setCell_other _ _ _ _ (fun he => by have h1 := congrArg Addr.block he; simp at h1; omega)).trans p1, by simpa using p2⟩
set_option maxHeartbeats 1000000 in
theorem withrule_impl (a : Option Addr) (css : List (List Value)) (n cap : Nat) (v0 v1 v2 v3 v4 v5 v6 v7 : Value) (w : World) (hnl : n = css.length) (hl : n ≤ 1048576) (hc : n ≤ cap) (hn : a = none → cap = 0) (h : CellsR a css w)
  (h1 : ∀ u ∈ [v0, v1, v2, v3, v4, v5, v6, v7], u.oneCell' = true) :
  Calls Tryz.prog 52 #[.agg #[.slice a n cap], .agg #[v0, v1, v2, v3, v4, v5, v6, v7]] w fun e w' => ∃ b c, e = .returned (.agg #[.slice (some ⟨b, 0, none⟩) (n + 1) c]) ∧ RowsOut (css ++ [[v0, v1, v2, v3, v4, v5, v6, v7]]) w b c w' := by
 obtain ⟨w0, hw0⟩ : ∃ w0, w0 = ((w.alloc (.cells #[.slice a n cap] 26)).alloc (.cells #[v0, v1, v2, v3, v4, v5, v6, v7] 59)).alloc (.cells #[.slice none 0 0] 26) := ⟨_, rfl⟩
 have hB0 : Below w.heap.size w w0 := by
  subst hw0
  exact (((Below.refl _ w).alloc (Nat.le_refl _) _).alloc (by simp) _).alloc (by simp; omega) _
 have hz0 : w0.heap.size = w.heap.size + 3 := by subst hw0; simp
 have hZ : CellsAt (w.heap.size + 2) [.slice none 0 0] w0 := by
  subst hw0
  have h1 := CellsAt.new ((w.alloc (.cells #[.slice a n cap] 26)).alloc (.cells #[v0, v1, v2, v3, v4, v5, v6, v7] 59)) [.slice none 0 0] 26
  simpa using h1
 have HC := Lib.hid (h.below hB0)
 have H1 := Lib.hid h1
 have HB := Lib.hid hB0
 have HZ := Lib.hid hZ
 have o0 := h1 v0 (by simp)
 have o1 := h1 v1 (by simp)
 have o2 := h1 v2 (by simp)
 have o3 := h1 v3 (by simp)
 have o4 := h1 v4 (by simp)
 have o5 := h1 v5 (by simp)
 have o6 := h1 v6 (by simp)
 have o7 := h1 v7 (by simp)
 have HNL := Lib.hid hnl
 clear h h1 hB0 hZ hnl
 go_enter Tryz.func52, Tryz.ntmps52
 go_wp2_with fail
 rw [← hw0]
 clear hw0
 refine (fresh_rule a css n cap v0 v1 v2 v3 v4 v5 v6 v7 _ HNL.out hl hc hn HC.out H1.out).mono ?_
 rintro e w1 ⟨b, c, rfl, hro⟩
 obtain ⟨z1, f1⟩ := HZ.out.below hro.2.2.2.2 0 _ rfl
 have hbz : w.heap.size + 2 < b := by have := hro.1; omega
 have R := Lib.hid ((hro.from HB.out).setFar (x := w.heap.size + 2) (i := 0) (v := .slice (some ⟨b, 0, none⟩) (n + 1) c) (by omega) hbz)
 clear hro
 go_wp2
 (try simp only [Exit.inBlock, Exit.then])
 refine bodyPost_ret (v := .agg #[.slice (some ⟨b, 0, none⟩) (n + 1) c]) ?_ rfl ?_
 ·simp [results, Tryz.results52, go_sem, z1]
 ·exact ⟨b, c, rfl, R.out⟩
theorem frule_no (a : Option Addr) (rs : List RuleV) (cap n : Nat) (w : World) (hl : rs.length ≤ 1048576) (hsh : ∀ r ∈ rs, Short r) (hsp : ∀ r ∈ rs, Spelt r) (hv : validAt (kindI rs) rs (n : Int) = false) (hrd : RdC a rs w) :
  Calls Tryz.prog 23 #[.agg #[.slice a rs.length cap], .int .i64 (n : Int)] w fun e w' => e = .returned (.string ⟨#[]⟩) ∧ Below w.heap.size w w' := by
 have hB : Below w.heap.size w (w.alloc (.cells #[.slice a rs.length cap] 26)) := (Below.refl _ _).alloc (Nat.le_refl _) _
 have H := Lib.hid (hrd.below hB)
 have HB := Lib.hid hB
 have HV := Lib.hid hv
 clear hrd hB hv
 go_enter Tryz.func23, Tryz.ntmps23
 go_wp2_with fail
 refine (validr_impl a rs cap (n : Int) _ hl hsh hsp H.out).mono ?_
 rintro e w1 ⟨rfl, hb1⟩
 rw [HV.out]
 have HB1 := Lib.hid (HB.out.trans (hb1.mono HB.out.size))
 clear hb1
 go_wp2
 go_ret
 exact ⟨rfl, HB1.out⟩
noncomputable def lastLine (rs : List RuleV) (x : RuleV) : ByteArray := if validAt (kindI (rs ++ [x])) (rs ++ [x]) (rs.length : Int) = true then lineS (rs ++ [x]) rs.length x else ⟨#[]⟩
theorem lastLine_acc {rs : List RuleV} {x : RuleV} {J : ByteArray} (hJ : J ≠ ⟨#[]⟩) : lastLine rs x = J ↔ Acc rs J x := by
 unfold lastLine Acc
 split
 ·rename_i h; exact ⟨fun e => ⟨h, e⟩, fun e => e.2⟩
 ·rename_i h; exact ⟨fun e => absurd e.symm hJ, fun e => absurd e.1 h⟩
theorem frule_last (m : Nat) (a : Option Addr) (rs : List RuleV) (x : RuleV) (cap : Nat) (w : World) (hm : m = rs.length + 1) (hl : rs.length ≤ 1048575) (hsh : ∀ r ∈ rs ++ [x], Short r) (hsp : ∀ r ∈ rs ++ [x], Spelt r) (htab : PowTab w) (hrd : RdC a (rs ++ [x]) w) :
  Calls Tryz.prog 23 #[.agg #[.slice a m cap], .int .i64 (rs.length : Int)] w fun e w' => e = .returned (.string (lastLine rs x)) ∧ Below w.heap.size w w' := by
 have hm2 : m = (rs ++ [x]).length := by simpa using hm
 subst hm2
 unfold lastLine
 by_cases hv : validAt (kindI (rs ++ [x])) (rs ++ [x]) (rs.length : Int) = true
 ·rw [if_pos hv]
  have h := frule_impl a (rs ++ [x]) cap rs.length w (by simp; omega) app_last hsh hsp hv htab hrd
  rw [app_at] at h
  exact h
 ·rw [if_neg hv]
  exact frule_no a (rs ++ [x]) cap rs.length w (by simp; omega) hsh hsp (by simpa using hv) hrd
theorem RdC.cells {a : Option Addr} {rs : List RuleV} {w : World} (h : RdC a rs w) : ∃ css, css.length = rs.length ∧ CellsR a css w ∧ ∀ j (h : j < rs.length) (h' : j < css.length), IsRule rs[j] css[j] w ∧ Cap5 css[j] := by
 have hall : ∀ n, n ≤ rs.length → ∃ css : List (List Value), css.length = n ∧ ∀ j (h : j < rs.length) (h' : j < css.length), ∃ b off, a = some ⟨b, off, none⟩ ∧ IsRule rs[j] css[j] w ∧ Cap5 css[j] ∧ ∀ i v, css[j][i]? = some v → w.cell? ⟨b, off + j * 8 + i, none⟩ = some v := by
  intro n
  induction n with
  | zero => intro _; exact ⟨[], rfl, fun j _ h' => by simp at h'⟩
  | succ n ih =>
   intro hn
   obtain ⟨css, hl, hc⟩ := ih (by omega)
   obtain ⟨b, off, cs, e1, e2, e3, e4⟩ := h n (by omega)
   refine ⟨css ++ [cs], by simp [hl], fun j hj hj' => ?_⟩
   by_cases hlt : j < css.length
   ·rw [List.getElem_append_left hlt]
    exact hc j hj hlt
   ·have e : j = n := by simp at hj'; omega
    subst e
    have e5 : (css ++ [cs])[j] = cs := by
     have : j = css.length := by omega
     subst this; simp
    rw [e5]
    exact ⟨b, off, e1, e2, e3, e4⟩
 obtain ⟨css, hl, hc⟩ := hall rs.length (Nat.le_refl _)
 refine ⟨css, hl, ⟨fun cs hcs => ?_, fun j hj => ?_⟩, fun j hj hj' => ?_⟩
 ·obtain ⟨j, hj, rfl⟩ := List.getElem_of_mem hcs
  obtain ⟨_, _, _, hr, _⟩ := hc j (by omega) hj
  exact hr.length
 ·obtain ⟨b, off, e, _, _, h4⟩ := hc j (by omega) hj
  exact ⟨b, off, e, h4⟩
 ·obtain ⟨_, _, _, hr, hcap, _⟩ := hc j hj hj'
  exact ⟨hr, hcap⟩
theorem RowsOut.rdc {css : List (List Value)} {cs : List Value} {rs : List RuleV} {x : RuleV} {w w' : World} {b c : Nat} (h : RowsOut (css ++ [cs]) w b c w') (hl : css.length = rs.length) (hr : ∀ j (h : j < rs.length) (h' : j < css.length), IsRule rs[j] css[j] w ∧ Cap5 css[j]) (hx : IsRule x cs w) (hcap : Cap5 cs) : RdC (some ⟨b, 0, none⟩) (rs ++ [x]) w' := fun j hj => by
 obtain ⟨q1, q2, q3, q4, q5⟩ := h
 have hj' : j < (css ++ [cs]).length := by simp at hj ⊢; omega
 refine ⟨b, 0, (css ++ [cs])[j], rfl, ?_, ?_, fun i v hv => (q4 j hj' i v hv).1⟩
 ·by_cases hlt : j < rs.length
  ·rw [List.getElem_append_left hlt, List.getElem_append_left (by omega)]
   exact (hr j hlt (by omega)).1.below q5
  ·have e : j = rs.length := by simp at hj; omega
   subst e
   have e1 : (rs ++ [x])[rs.length] = x := by simp
   have e2 : (css ++ [cs])[rs.length] = cs := by simp [← hl]
   rw [e1, e2]
   exact hx.below q5
 ·by_cases hlt : j < rs.length
  ·rw [List.getElem_append_left (by omega)]
   exact (hr j hlt (by omega)).2
  ·have e : j = rs.length := by simp at hj; omega
   subst e
   have e2 : (css ++ [cs])[rs.length] = cs := by simp [← hl]
   rw [e2]
   exact hcap
def zeroCs : List Value := [.string ⟨#[]⟩, .int .i64 0, .int .i64 0, .bool false, .slice none 0 0, .slice none 0 0, .slice none 0 0, .slice none 0 0]
def AccOut (rs : List RuleV) (J : ByteArray) (x : RuleV) (cs : List Value) (w : World) (e : Ending) (w' : World) : Prop :=
 ((e = .returned (.tuple #[.agg cs.toArray, .bool true]) ∧ Acc rs J x) ∨ (e = .returned (.tuple #[.agg zeroCs.toArray, .bool false]) ∧ ¬ Acc rs J x)) ∧ Below w.heap.size w w'
set_option maxHeartbeats 4000000 in
theorem accept_impl (a : Option Addr) (rs : List RuleV) (cap : Nat) (x : RuleV) (cs : List Value) (J : ByteArray) (w : World) (hJ : J ≠ ⟨#[]⟩) (hl : rs.length ≤ 1048575) (hc : rs.length ≤ cap) (hn : a = none → cap = 0) (hsh : ∀ r ∈ rs ++ [x], Short r) (hsp : ∀ r ∈ rs ++ [x], Spelt r) (htab : PowTab w) (hrd : RdC a rs w) (hx : IsRule x cs w) (hcap : Cap5 cs) :
  Calls Tryz.prog 119 #[.agg #[.slice a rs.length cap], .agg cs.toArray, .string J] w (AccOut rs J x cs w) := by
 obtain ⟨css, hcl, hcr, hci⟩ := hrd.cells
 have hone := hx.one
 have hxx := hx
 obtain ⟨a4, c4, a5, c5, a6, c6, a7, c7, rfl, -⟩ := hx
 obtain ⟨w0, hw0⟩ : ∃ w0, w0 = ((w.alloc (.cells #[.slice a rs.length cap] 26)).alloc (.cells #[.string x.name, .int .i64 x.kind, .int .i64 x.size, .bool x.little, .slice a4 x.bytes.length c4, .slice a5 x.names.length c5, .slice a6 x.tags.length c6, .slice a7 x.kids.length c7] 59)).alloc (.cells #[.string ⟨#[]⟩, .int .i64 0, .int .i64 0, .bool false, .slice none 0 0, .slice none 0 0, .slice none 0 0, .slice none 0 0] 59) := ⟨_, rfl⟩
 have hB0 : Below w.heap.size w w0 := by
  subst hw0
  exact (((Below.refl _ w).alloc (Nat.le_refl _) _).alloc (by simp) _).alloc (by simp; omega) _
 have hz0 : w0.heap.size = w.heap.size + 3 := by subst hw0; simp
 have hD : CellsAt w.heap.size [.slice a rs.length cap] w0 := by
  subst hw0
  exact ((CellsAt.new w [.slice a rs.length cap] 26).below ((Below.refl _ _).alloc (Nat.le_refl _) _)).below ((Below.refl _ _).alloc (Nat.le_refl _) _)
 have hR : CellsAt (w.heap.size + 1) [.string x.name, .int .i64 x.kind, .int .i64 x.size, .bool x.little, .slice a4 x.bytes.length c4, .slice a5 x.names.length c5, .slice a6 x.tags.length c6, .slice a7 x.kids.length c7] w0 := by
  subst hw0
  have h1 := CellsAt.new (w.alloc (.cells #[.slice a rs.length cap] 26)) [.string x.name, .int .i64 x.kind, .int .i64 x.size, .bool x.little, .slice a4 x.bytes.length c4, .slice a5 x.names.length c5, .slice a6 x.tags.length c6, .slice a7 x.kids.length c7] 59
  simp only [World.size_alloc] at h1
  exact h1.below ((Below.refl _ _).alloc (Nat.le_refl _) _)
 have hZ : CellsAt (w.heap.size + 2) zeroCs w0 := by
  subst hw0
  have h1 := CellsAt.new ((w.alloc (.cells #[.slice a rs.length cap] 26)).alloc (.cells #[.string x.name, .int .i64 x.kind, .int .i64 x.size, .bool x.little, .slice a4 x.bytes.length c4, .slice a5 x.names.length c5, .slice a6 x.tags.length c6, .slice a7 x.kids.length c7] 59)) zeroCs 59
  simpa [zeroCs] using h1
 have HD := Lib.hid hD
 have HR := Lib.hid hR
 have HZ := Lib.hid hZ
 have HW := Lib.hid hw0
 have HO := Lib.hid hone
 have HSH := Lib.hid hsh
 have HSP := Lib.hid hsp
 have HACC := Lib.hid (lastLine_acc (rs := rs) (x := x) hJ)
 have hb : Hid (Below w.heap.size w w0.drew) := below_drewN hB0 1
 have HT := Lib.hid htab
 have HCR := Lib.hid hcr
 have HCI := Lib.hid hci
 have HXX := Lib.hid hxx
 have HCL := Lib.hid hcl
 have HCAP := Lib.hid hcap
 have hbw : Hid (Below w0.heap.size w0 w0.drew) := below_drewN (Below.refl _ _) 1
 obtain ⟨LL, hLL⟩ : ∃ LL, LL = lastLine rs x := ⟨_, rfl⟩
 rw [← hLL] at HACC
 have HLL := Lib.hid hLL
 clear hB0 hD hR hZ hw0 hone hsh hsp htab hcr hci hxx hcl hcap hLL hrd hJ
 by_cases he : LL = J
 ·have g := str_eq he
  have hacc := Lib.hid (HACC.out.1 he)
  clear HACC he
  go_enter Tryz.func119, Tryz.ntmps119
  go_upto_region 1 with fail
  rw [← HW.out]
  clear HW
  go_region_held3 (fun W => W.cell? ⟨w.heap.size, 0, none⟩ = some (.slice a rs.length cap) ∧ W.cell? ⟨w.heap.size + 1, 0, none⟩ = some (.string x.name) ∧ W.cell? ⟨w.heap.size + 1, 1, none⟩ = some (.int .i64 x.kind) ∧ W.cell? ⟨w.heap.size + 1, 2, none⟩ = some (.int .i64 x.size) ∧ W.cell? ⟨w.heap.size + 1, 3, none⟩ = some (.bool x.little) ∧ W.cell? ⟨w.heap.size + 1, 4, none⟩ = some (.slice a4 x.bytes.length c4) ∧ W.cell? ⟨w.heap.size + 1, 5, none⟩ = some (.slice a5 x.names.length c5) ∧ W.cell? ⟨w.heap.size + 1, 6, none⟩ = some (.slice a6 x.tags.length c6) ∧ W.cell? ⟨w.heap.size + 1, 7, none⟩ = some (.slice a7 x.kids.length c7)) (exact ⟨(HD.out.below hbw.out 0 _ rfl).1, (HR.out.below hbw.out 0 _ rfl).1, (HR.out.below hbw.out 1 _ rfl).1, (HR.out.below hbw.out 2 _ rfl).1, (HR.out.below hbw.out 3 _ rfl).1, (HR.out.below hbw.out 4 _ rfl).1, (HR.out.below hbw.out 5 _ rfl).1, (HR.out.below hbw.out 6 _ rfl).1, (HR.out.below hbw.out 7 _ rfl).1⟩) (first | (go_at_call 52; refine (withrule_impl a css rs.length cap _ _ _ _ _ _ _ _ _ HCL.out.symm (by omega) hc hn (HCR.out.below hb.out) HO.out).mono ?_; rintro e y1 ⟨nb, nc, rfl, hro⟩; have HRD := Lib.hid (hro.rdc HCL.out (fun j h h' => ⟨(HCI.out j h h').1.below hb.out, (HCI.out j h h').2⟩) (HXX.out.below hb.out) HCAP.out); replace hbw := Lib.hid (hbw.out.trans (hro.2.2.2.2.mono hbw.out.size)); replace hb := Lib.hid (hb.out.trans (hro.2.2.2.2.mono hb.out.size)); clear hro) | (go_at_call 23; refine (frule_last (rs.length + 1) (some ⟨nb, 0, none⟩) rs x nc _ rfl hl HSH.out HSP.out (HT.out.below hb.out) HRD.out).mono ?_; rintro e y2 ⟨rfl, hb1⟩; rw [← HLL.out]; replace hbw := Lib.hid (hbw.out.trans (hb1.mono hbw.out.size)); replace hb := Lib.hid (hb.out.trans (hb1.mono hb.out.size)); clear hb1))
  obtain ⟨z0, t0⟩ := HZ.out.below hbw.out 0 _ rfl
  obtain ⟨z1, t1⟩ := HZ.out.below hbw.out 1 _ rfl
  obtain ⟨z2, t2⟩ := HZ.out.below hbw.out 2 _ rfl
  obtain ⟨z3, t3⟩ := HZ.out.below hbw.out 3 _ rfl
  obtain ⟨z4, t4⟩ := HZ.out.below hbw.out 4 _ rfl
  obtain ⟨z5, t5⟩ := HZ.out.below hbw.out 5 _ rfl
  obtain ⟨z6, t6⟩ := HZ.out.below hbw.out 6 _ rfl
  obtain ⟨z7, t7⟩ := HZ.out.below hbw.out 7 _ rfl
  have r0 := (HR.out.below hbw.out 0 _ rfl).1
  have r1 := (HR.out.below hbw.out 1 _ rfl).1
  have r2 := (HR.out.below hbw.out 2 _ rfl).1
  have r3 := (HR.out.below hbw.out 3 _ rfl).1
  have r4 := (HR.out.below hbw.out 4 _ rfl).1
  have r5 := (HR.out.below hbw.out 5 _ rfl).1
  have r6 := (HR.out.below hbw.out 6 _ rfl).1
  have r7 := (HR.out.below hbw.out 7 _ rfl).1
  go_wp2
  (try simp only [Exit.inBlock, Exit.then])
  refine bodyPost_ret (v := .tuple #[.agg #[.string x.name, .int .i64 x.kind, .int .i64 x.size, .bool x.little, .slice a4 x.bytes.length c4, .slice a5 x.names.length c5, .slice a6 x.tags.length c6, .slice a7 x.kids.length c7], .bool true]) ?_ rfl ?_
  ·simp [results, Tryz.results119, go_sem, z0, z1, z2, z3, z4, z5, z6, z7]
  ·exact ⟨.inl ⟨rfl, hacc.out⟩, ((((((((hb.out.setCell (p := ⟨w.heap.size + 2, 0, none⟩) (by show w.heap.size ≤ w.heap.size + 2; omega) _).setCell (p := ⟨w.heap.size + 2, 1, none⟩) (by show w.heap.size ≤ w.heap.size + 2; omega) _).setCell (p := ⟨w.heap.size + 2, 2, none⟩) (by show w.heap.size ≤ w.heap.size + 2; omega) _).setCell (p := ⟨w.heap.size + 2, 3, none⟩) (by show w.heap.size ≤ w.heap.size + 2; omega) _).setCell (p := ⟨w.heap.size + 2, 4, none⟩) (by show w.heap.size ≤ w.heap.size + 2; omega) _).setCell (p := ⟨w.heap.size + 2, 5, none⟩) (by show w.heap.size ≤ w.heap.size + 2; omega) _).setCell (p := ⟨w.heap.size + 2, 6, none⟩) (by show w.heap.size ≤ w.heap.size + 2; omega) _).setCell (p := ⟨w.heap.size + 2, 7, none⟩) (by show w.heap.size ≤ w.heap.size + 2; omega) _)⟩
 ·have g := str_ne he
  have hacc := Lib.hid (fun h => he (HACC.out.2 h))
  clear HACC he
  go_enter Tryz.func119, Tryz.ntmps119
  go_upto_region 1 with fail
  rw [← HW.out]
  clear HW
  go_region_held3 (fun W => W.cell? ⟨w.heap.size, 0, none⟩ = some (.slice a rs.length cap) ∧ W.cell? ⟨w.heap.size + 1, 0, none⟩ = some (.string x.name) ∧ W.cell? ⟨w.heap.size + 1, 1, none⟩ = some (.int .i64 x.kind) ∧ W.cell? ⟨w.heap.size + 1, 2, none⟩ = some (.int .i64 x.size) ∧ W.cell? ⟨w.heap.size + 1, 3, none⟩ = some (.bool x.little) ∧ W.cell? ⟨w.heap.size + 1, 4, none⟩ = some (.slice a4 x.bytes.length c4) ∧ W.cell? ⟨w.heap.size + 1, 5, none⟩ = some (.slice a5 x.names.length c5) ∧ W.cell? ⟨w.heap.size + 1, 6, none⟩ = some (.slice a6 x.tags.length c6) ∧ W.cell? ⟨w.heap.size + 1, 7, none⟩ = some (.slice a7 x.kids.length c7)) (exact ⟨(HD.out.below hbw.out 0 _ rfl).1, (HR.out.below hbw.out 0 _ rfl).1, (HR.out.below hbw.out 1 _ rfl).1, (HR.out.below hbw.out 2 _ rfl).1, (HR.out.below hbw.out 3 _ rfl).1, (HR.out.below hbw.out 4 _ rfl).1, (HR.out.below hbw.out 5 _ rfl).1, (HR.out.below hbw.out 6 _ rfl).1, (HR.out.below hbw.out 7 _ rfl).1⟩) (first | (go_at_call 52; refine (withrule_impl a css rs.length cap _ _ _ _ _ _ _ _ _ HCL.out.symm (by omega) hc hn (HCR.out.below hb.out) HO.out).mono ?_; rintro e y1 ⟨nb, nc, rfl, hro⟩; have HRD := Lib.hid (hro.rdc HCL.out (fun j h h' => ⟨(HCI.out j h h').1.below hb.out, (HCI.out j h h').2⟩) (HXX.out.below hb.out) HCAP.out); replace hbw := Lib.hid (hbw.out.trans (hro.2.2.2.2.mono hbw.out.size)); replace hb := Lib.hid (hb.out.trans (hro.2.2.2.2.mono hb.out.size)); clear hro) | (go_at_call 23; refine (frule_last (rs.length + 1) (some ⟨nb, 0, none⟩) rs x nc _ rfl hl HSH.out HSP.out (HT.out.below hb.out) HRD.out).mono ?_; rintro e y2 ⟨rfl, hb1⟩; rw [← HLL.out]; replace hbw := Lib.hid (hbw.out.trans (hb1.mono hbw.out.size)); replace hb := Lib.hid (hb.out.trans (hb1.mono hb.out.size)); clear hb1))
  obtain ⟨z0, t0⟩ := HZ.out.below hbw.out 0 _ rfl
  obtain ⟨z1, t1⟩ := HZ.out.below hbw.out 1 _ rfl
  obtain ⟨z2, t2⟩ := HZ.out.below hbw.out 2 _ rfl
  obtain ⟨z3, t3⟩ := HZ.out.below hbw.out 3 _ rfl
  obtain ⟨z4, t4⟩ := HZ.out.below hbw.out 4 _ rfl
  obtain ⟨z5, t5⟩ := HZ.out.below hbw.out 5 _ rfl
  obtain ⟨z6, t6⟩ := HZ.out.below hbw.out 6 _ rfl
  obtain ⟨z7, t7⟩ := HZ.out.below hbw.out 7 _ rfl
  go_wp2
  (try simp only [Exit.inBlock, Exit.then])
  refine bodyPost_ret (v := .tuple #[.agg zeroCs.toArray, .bool false]) ?_ rfl ?_
  ·simp [results, Tryz.results119, go_sem, zeroCs, z0, z1, z2, z3, z4, z5, z6, z7]
  ·exact ⟨.inr ⟨rfl, hacc.out⟩, ((((((((hb.out.setCell (p := ⟨w.heap.size + 2, 0, none⟩) (by show w.heap.size ≤ w.heap.size + 2; omega) _).setCell (p := ⟨w.heap.size + 2, 1, none⟩) (by show w.heap.size ≤ w.heap.size + 2; omega) _).setCell (p := ⟨w.heap.size + 2, 2, none⟩) (by show w.heap.size ≤ w.heap.size + 2; omega) _).setCell (p := ⟨w.heap.size + 2, 3, none⟩) (by show w.heap.size ≤ w.heap.size + 2; omega) _).setCell (p := ⟨w.heap.size + 2, 4, none⟩) (by show w.heap.size ≤ w.heap.size + 2; omega) _).setCell (p := ⟨w.heap.size + 2, 5, none⟩) (by show w.heap.size ≤ w.heap.size + 2; omega) _).setCell (p := ⟨w.heap.size + 2, 6, none⟩) (by show w.heap.size ≤ w.heap.size + 2; omega) _).setCell (p := ⟨w.heap.size + 2, 7, none⟩) (by show w.heap.size ≤ w.heap.size + 2; omega) _)⟩
theorem blks_eq (a4 a5 a6 a7 : Option Addr) (n4 c4 n5 c5 n6 c6 n7 c7 : Nat) (s : ByteArray) (i j : Int) (b : Bool) :
  ([.string s, .int .i64 i, .int .i64 j, .bool b, .slice a4 n4 c4, .slice a5 n5 c5, .slice a6 n6 c6, .slice a7 n7 c7] : List Value).flatMap sliceBlk = sliceBlk (.slice a4 n4 c4) ++ (sliceBlk (.slice a5 n5 c5) ++ (sliceBlk (.slice a6 n6 c6) ++ sliceBlk (.slice a7 n7 c7))) := by
 simp only [List.flatMap_cons, List.flatMap_nil, List.append_nil]
 rfl
theorem OwnRule.setOut {lo hi x i : Nat} {r : RuleV} {cs : List Value} {w : World} {v : Value} (h : OwnRule lo hi r cs w) (hx : ∀ b ∈ cs.flatMap sliceBlk, b ≠ x) : OwnRule lo hi r cs (w.setCell ⟨x, i, none⟩ v) := by
 obtain ⟨a4, c4, a5, c5, a6, c6, a7, c7, rfl, h4, h5, h6, h7, h8⟩ := h
 rw [blks_eq] at hx
 have hg := grown_set (grown_refl w x) i v
 have hin : ∀ (a : Option Addr) (n c : Nat), (∀ b ∈ sliceBlk (.slice a n c), b ≠ x) → ∀ b off, a = some ⟨b, off, none⟩ → n ≠ 0 → b ≠ x := fun a n c hh b off ha hn => hh b (by subst ha; exact blk_of hn)
 refine ⟨a4, c4, a5, c5, a6, c6, a7, c7, rfl, ⟨h4.1.grown hg fun b off ha hn => ?_, h4.2⟩, ⟨h5.1.grown hg fun b off ha hn => ?_, h5.2⟩, ⟨h6.1.grown hg fun b off ha hn => ?_, h6.2⟩, ⟨h7.1.grown hg fun b off ha hn => ?_, h7.2⟩, h8⟩
 ·exact hin a4 r.bytes.length c4 (fun b hb => hx b (by simp [hb])) b off ha (fun e => hn (List.eq_nil_of_length_eq_zero e))
 ·exact hin a5 r.names.length c5 (fun b hb => hx b (by simp [hb])) b off ha (fun e => hn (List.eq_nil_of_length_eq_zero e))
 ·exact hin a6 r.tags.length c6 (fun b hb => hx b (by simp [hb])) b off ha (fun e => hn (List.eq_nil_of_length_eq_zero e))
 ·exact hin a7 r.kids.length c7 (fun b hb => hx b (by simp [hb])) b off ha (fun e => hn (List.eq_nil_of_length_eq_zero e))
theorem mem4 {A B C D : List Nat} {P : Nat → Prop} (h : ∀ b ∈ A ++ (B ++ (C ++ D)), P b) : (∀ b ∈ A, P b) ∧ (∀ b ∈ B, P b) ∧ (∀ b ∈ C, P b) ∧ (∀ b ∈ D, P b) :=
 ⟨fun b hb => h b (by simp [hb]), fun b hb => h b (by simp [hb]), fun b hb => h b (by simp [hb]), fun b hb => h b (by simp [hb])⟩
theorem nodup4 {A B C D : List Nat} : (A ++ (B ++ (C ++ D))).Nodup ↔ A.Nodup ∧ B.Nodup ∧ C.Nodup ∧ D.Nodup ∧ (∀ x ∈ A, x ∉ B ∧ x ∉ C ∧ x ∉ D) ∧ (∀ x ∈ B, x ∉ C ∧ x ∉ D) ∧ (∀ x ∈ C, x ∉ D) := by
 simp only [List.nodup_append, List.mem_append]
 constructor
 ·rintro ⟨h1, ⟨h2, ⟨h3, h4, h5⟩, h6⟩, h7⟩
  exact ⟨h1, h2, h3, h4, fun x hx => ⟨fun hb => h7 x hx x (.inl hb) rfl, fun hc => h7 x hx x (.inr (.inl hc)) rfl, fun hd => h7 x hx x (.inr (.inr hd)) rfl⟩, fun x hx => ⟨fun hc => h6 x hx x (.inl hc) rfl, fun hd => h6 x hx x (.inr hd) rfl⟩, fun x hx hd => h5 x hx x hd rfl⟩
 ·rintro ⟨h1, h2, h3, h4, h5, h6, h7⟩
  refine ⟨h1, ⟨h2, ⟨h3, h4, fun a ha b hb e => h7 a ha (e ▸ hb)⟩, fun a ha b hb e => ?_⟩, fun a ha b hb e => ?_⟩
  ·subst e; rcases hb with hb | hb
   ·exact (h6 a ha).1 hb
   ·exact (h6 a ha).2 hb
  ·subst e; rcases hb with hb | hb | hb
   ·exact (h5 a ha).1 hb
   ·exact (h5 a ha).2.1 hb
   ·exact (h5 a ha).2.2 hb
theorem blk_new (b n c : Nat) : ∀ x ∈ sliceBlk (.slice (some ⟨b, 0, none⟩) n c), x = b := fun x hx => by
 simp [sliceBlk] at hx
 exact hx.2
theorem OwnRule.names {lo hi b c c4 c5 c6 c7 : Nat} {a4 a5 a6 a7 : Option Addr} {r : RuleV} {ns : List ByteArray} {w w' : World} (h : OwnRule lo hi r [.string r.name, .int .i64 r.kind, .int .i64 r.size, .bool r.little, .slice a4 r.bytes.length c4, .slice a5 r.names.length c5, .slice a6 r.tags.length c6, .slice a7 r.kids.length c7] w)
  (hb : Below w.heap.size w w') (hhi : hi ≤ b) (hlo : lo ≤ b) (hbw : b < w'.heap.size) (hrow : RowF Value.string b (some ⟨b, 0, none⟩) ns c w') :
  OwnRule lo w'.heap.size { r with names := ns } [.string r.name, .int .i64 r.kind, .int .i64 r.size, .bool r.little, .slice a4 r.bytes.length c4, .slice (some ⟨b, 0, none⟩) ns.length c, .slice a6 r.tags.length c6, .slice a7 r.kids.length c7] w' := by
 obtain ⟨x4, y4, x5, y5, x6, y6, x7, y7, e, h4, h5, h6, h7, h8, h9⟩ := h
 simp only [List.cons.injEq, Value.slice.injEq, true_and, and_true] at e
 obtain ⟨⟨rfl, rfl⟩, ⟨rfl, rfl⟩, ⟨rfl, rfl⟩, rfl, rfl⟩ := e
 rw [blks_eq] at h8 h9
 obtain ⟨m4, m5, m6, m7⟩ := mem4 h9
 obtain ⟨n1, n2, n3, n4, n5, n6, n7⟩ := nodup4.1 h8
 have nb := blk_new b ns.length c
 refine ⟨a4, c4, some ⟨b, 0, none⟩, c, a6, c6, a7, c7, rfl, h4.below hb, hrow.more hlo, h6.below hb, h7.below hb, ?_, ?_⟩
 ·rw [blks_eq]
  refine nodup4.2 ⟨n1, sliceBlk_nodup _ _ _, n3, n4, fun x hx => ⟨fun q => ?_, (n5 x hx).2.1, (n5 x hx).2.2⟩, fun x hx => ⟨fun q => ?_, fun q => ?_⟩, n7⟩
  ·have := nb x q; have := m4 x hx; omega
  ·have := nb x hx; have := m6 x q; omega
  ·have := nb x hx; have := m7 x q; omega
 ·rw [blks_eq]
  intro x hx
  simp only [List.mem_append] at hx
  rcases hx with hx | hx | hx | hx
  ·have := m4 x hx; omega
  ·have := nb x hx; omega
  ·have := m6 x hx; omega
  ·have := m7 x hx; omega
theorem OwnRule.tags {lo hi b c c4 c5 c6 c7 : Nat} {a4 a5 a6 a7 : Option Addr} {r : RuleV} {ns : List Int} {w w' : World} (h : OwnRule lo hi r [.string r.name, .int .i64 r.kind, .int .i64 r.size, .bool r.little, .slice a4 r.bytes.length c4, .slice a5 r.names.length c5, .slice a6 r.tags.length c6, .slice a7 r.kids.length c7] w)
  (hb : Below w.heap.size w w') (hhi : hi ≤ b) (hlo : lo ≤ b) (hbw : b < w'.heap.size) (hrow : RowF (Value.int .i64) b (some ⟨b, 0, none⟩) ns c w') :
  OwnRule lo w'.heap.size { r with tags := ns } [.string r.name, .int .i64 r.kind, .int .i64 r.size, .bool r.little, .slice a4 r.bytes.length c4, .slice a5 r.names.length c5, .slice (some ⟨b, 0, none⟩) ns.length c, .slice a7 r.kids.length c7] w' := by
 obtain ⟨x4, y4, x5, y5, x6, y6, x7, y7, e, h4, h5, h6, h7, h8, h9⟩ := h
 simp only [List.cons.injEq, Value.slice.injEq, true_and, and_true] at e
 obtain ⟨⟨rfl, rfl⟩, ⟨rfl, rfl⟩, ⟨rfl, rfl⟩, rfl, rfl⟩ := e
 rw [blks_eq] at h8 h9
 obtain ⟨m4, m5, m6, m7⟩ := mem4 h9
 obtain ⟨n1, n2, n3, n4, n5, n6, n7⟩ := nodup4.1 h8
 have nb := blk_new b ns.length c
 refine ⟨a4, c4, a5, c5, some ⟨b, 0, none⟩, c, a7, c7, rfl, h4.below hb, h5.below hb, hrow.more hlo, h7.below hb, ?_, ?_⟩
 ·rw [blks_eq]
  refine nodup4.2 ⟨n1, n2, sliceBlk_nodup _ _ _, n4, fun x hx => ⟨(n5 x hx).1, fun q => ?_, (n5 x hx).2.2⟩, fun x hx => ⟨fun q => ?_, (n6 x hx).2⟩, fun x hx q => ?_⟩
  ·have := nb x q; have := m4 x hx; omega
  ·have := nb x q; have := m5 x hx; omega
  ·have := nb x hx; have := m7 x q; omega
 ·rw [blks_eq]
  intro x hx
  simp only [List.mem_append] at hx
  rcases hx with hx | hx | hx | hx
  ·have := m4 x hx; omega
  ·have := m5 x hx; omega
  ·have := nb x hx; omega
  ·have := m7 x hx; omega
theorem OwnRule.kidsNew {lo hi b c c4 c5 c6 c7 : Nat} {a4 a5 a6 a7 : Option Addr} {r : RuleV} {ns : List Int} {w w' : World} (h : OwnRule lo hi r [.string r.name, .int .i64 r.kind, .int .i64 r.size, .bool r.little, .slice a4 r.bytes.length c4, .slice a5 r.names.length c5, .slice a6 r.tags.length c6, .slice a7 r.kids.length c7] w)
  (hb : Below w.heap.size w w') (hhi : hi ≤ b) (hlo : lo ≤ b) (hbw : b < w'.heap.size) (hrow : RowF (Value.int .i64) b (some ⟨b, 0, none⟩) ns c w') :
  OwnRule lo w'.heap.size { r with kids := ns } [.string r.name, .int .i64 r.kind, .int .i64 r.size, .bool r.little, .slice a4 r.bytes.length c4, .slice a5 r.names.length c5, .slice a6 r.tags.length c6, .slice (some ⟨b, 0, none⟩) ns.length c] w' := by
 obtain ⟨x4, y4, x5, y5, x6, y6, x7, y7, e, h4, h5, h6, h7, h8, h9⟩ := h
 simp only [List.cons.injEq, Value.slice.injEq, true_and, and_true] at e
 obtain ⟨⟨rfl, rfl⟩, ⟨rfl, rfl⟩, ⟨rfl, rfl⟩, rfl, rfl⟩ := e
 rw [blks_eq] at h8 h9
 obtain ⟨m4, m5, m6, m7⟩ := mem4 h9
 obtain ⟨n1, n2, n3, n4, n5, n6, n7⟩ := nodup4.1 h8
 have nb := blk_new b ns.length c
 refine ⟨a4, c4, a5, c5, a6, c6, some ⟨b, 0, none⟩, c, rfl, h4.below hb, h5.below hb, h6.below hb, hrow.more hlo, ?_, ?_⟩
 ·rw [blks_eq]
  refine nodup4.2 ⟨n1, n2, n3, sliceBlk_nodup _ _ _, fun x hx => ⟨(n5 x hx).1, (n5 x hx).2.1, fun q => ?_⟩, fun x hx => ⟨(n6 x hx).1, fun q => ?_⟩, fun x hx q => ?_⟩
  ·have := nb x q; have := m4 x hx; omega
  ·have := nb x q; have := m5 x hx; omega
  ·have := nb x q; have := m6 x hx; omega
 ·rw [blks_eq]
  intro x hx
  simp only [List.mem_append] at hx
  rcases hx with hx | hx | hx | hx
  ·have := m4 x hx; omega
  ·have := m5 x hx; omega
  ·have := m6 x hx; omega
  ·have := nb x hx; omega
theorem pint_impl (s : ByteArray) (w : World) (hs : s.size ≤ 1048576) (ht : Tabs w) :
  Calls Tryz.prog 116 #[.string s] w fun e w' => ∃ (n : Nat) (ok : Bool), e = .returned (.tuple #[.int .i64 (n : Int), .bool ok]) ∧ n ≤ 1000000000000 ∧ (∀ m, Spells s m → n = m) ∧ Below w.heap.size w w' := by
 by_cases h : ∃ n, Spells s n
 ·obtain ⟨n, hn⟩ := h
  refine (parse_impl_yes s n w hn ht).mono ?_
  rintro e w' ⟨rfl, hb⟩
  exact ⟨n, true, rfl, hn.1, fun m hm => spells_unique hn hm, hb⟩
 ·refine (parse_impl_no s w (fun n hn => h ⟨n, hn⟩) ht (by omega)).mono ?_
  rintro e w' ⟨rfl, hb⟩
  exact ⟨0, false, rfl, by omega, fun m hm => absurd ⟨m, hm⟩ h, hb⟩
theorem cut58I (s : ByteArray) (w : World) (hs : s.size ≤ 1073741824) :
  Calls Tryz.prog 88 #[.string s, .int .u8 58] w fun e w' => e = .returned (.tuple #[.string (cutA 58 s), .string (cutB 58 s), .bool (cutK 58 s)]) ∧ Below w.heap.size w w' := (cut_impl s 58 w hs).mono fun e w' ⟨h, n, hn⟩ => ⟨h, by rw [hn]; exact below_drewN (Below.refl _ _) n⟩
theorem cutB_le (c : UInt8) (s : ByteArray) : (cutB c s).size ≤ s.size := by
 cases hk : cutK c s
 ·have h1 := cut_self hk
  have h2 : cutB c s = ⟨#[]⟩ := by
   have := (cutL_what c (lst s))
   unfold cutB cutK at *
   have h3 : (cutL c (lst s)).1 = lst s := this.2.2 hk
   have h4 := cutL_none (c := c) (l := lst s) (by have h5 := this.1; rw [h3] at h5; exact h5)
   rw [h4]; rfl
  rw [h2]; exact Nat.zero_le _
 ·exact Nat.le_of_lt (cut_less hk)
theorem cutA_le (c : UInt8) (s : ByteArray) : (cutA c s).size ≤ s.size := by
 cases hk : cutK c s
 ·rw [cut_self hk]; exact Nat.le_refl _
 ·have := cut_sum hk
  have h1 := congrArg List.length this
  simp only [List.length_append, List.length_cons, lst_length] at h1
  omega
structure Inv (k : Nat) (r : RuleV) : Prop where
 bytes : r.bytes.length ≤ 1048576
 names : r.names.length ≤ k
 tags : r.tags.length ≤ k
 kids : r.kids.length ≤ k
 spelt : Spelt r
def LabelOut (rs : List RuleV) (J : ByteArray) (lo : Nat) (cs : List Value) (r : RuleV) (T : ByteArray) (w : World) (e : Ending) (w' : World) : Prop :=
 ∃ r' cs' T', e = .returned (.tuple #[.agg cs'.toArray, .string T']) ∧ OwnRule lo w'.heap.size r' cs' w' ∧ Below w.heap.size w w' ∧ (∀ b ∈ cs'.flatMap sliceBlk, b ∈ cs.flatMap sliceBlk ∨ w.heap.size ≤ b) ∧ T'.size ≤ T.size ∧ r'.kids = r.kids ∧ (∀ k, k ≤ 1000 → Inv k r → Inv (k + 1) r') ∧ (∀ y m, Acc rs J y → OnPath rs y m r T → AtKid rs y m r' T')
theorem label_none {rs : List RuleV} {J T : ByteArray} {r : RuleV} (hr : allV (kindI rs) rs) (h6 : r.kind ≠ 6) (h7 : ¬ (r.kind = 7 ∧ 0 < r.kids.length)) : ∀ y m, Acc rs J y → OnPath rs y m r T → AtKid rs y m r T := fun y m hy hp => by
 obtain ⟨hk, hm, e, -⟩ := id hp
 have k1 : y.kind = r.kind := by rw [e]; rfl
 have k2 : r.kids.length = m := by rw [e]; show (y.kids.take m).length = m; rw [List.length_take]; omega
 exact (path_label hr hy hp).2.2 (by omega) (by omega)
theorem label_six {rs : List RuleV} {J T : ByteArray} {r : RuleV} (hr : allV (kindI rs) rs) (h6 : r.kind = 6) : ∀ y m, Acc rs J y → OnPath rs y m r T → AtKid rs y m { r with names := r.names ++ [cutA 58 T] } (cutB 58 T) := fun y m hy hp => by
 obtain ⟨hk, hm, e, -⟩ := id hp
 have k1 : y.kind = r.kind := by rw [e]; rfl
 exact (path_label hr hy hp).1 (by omega)
theorem label_seven {rs : List RuleV} {J T : ByteArray} {r : RuleV} {n : Nat} (hr : allV (kindI rs) rs) (h7 : r.kind = 7) (h0 : 0 < r.kids.length) (hn : ∀ m, Spells (cutA 58 T) m → n = m) : ∀ y m, Acc rs J y → OnPath rs y m r T → AtKid rs y m { r with tags := r.tags ++ [(n : Int)] } (cutB 58 T) := fun y m hy hp => by
 obtain ⟨hk, hm, e, -⟩ := id hp
 have k1 : y.kind = r.kind := by rw [e]; rfl
 have k2 : r.kids.length = m := by rw [e]; show (y.kids.take m).length = m; rw [List.length_take]; omega
 obtain ⟨t, ht, ha⟩ := (path_label hr hy hp).2.1 (by omega) (by omega)
 obtain rfl := hn t ht
 exact ha
theorem inv_more {k : Nat} {r : RuleV} (h : Inv k r) : Inv (k + 1) r := ⟨h.bytes, Nat.le_succ_of_le h.names, Nat.le_succ_of_le h.tags, Nat.le_succ_of_le h.kids, h.spelt⟩
theorem inv_names {k : Nat} {r : RuleV} {s : ByteArray} (h : Inv k r) (hs : s.size ≤ 1048576) : Inv (k + 1) { r with names := r.names ++ [s] } := ⟨h.bytes, by show (r.names ++ [s]).length ≤ k + 1; simp; exact h.names, Nat.le_succ_of_le h.tags, Nat.le_succ_of_le h.kids, h.spelt.1, fun q hq => by
 rcases List.mem_append.1 hq with hq | hq
 ·exact h.spelt.2 q hq
 ·rw [List.mem_singleton] at hq; rw [hq]; exact hs⟩
theorem inv_tags {k : Nat} {r : RuleV} {t : Int} (h : Inv k r) : Inv (k + 1) { r with tags := r.tags ++ [t] } := ⟨h.bytes, Nat.le_succ_of_le h.names, by show (r.tags ++ [t]).length ≤ k + 1; simp; exact h.tags, Nat.le_succ_of_le h.kids, h.spelt⟩
theorem inv_kids {k : Nat} {r : RuleV} {t : Int} (h : Inv k r) : Inv (k + 1) { r with kids := r.kids ++ [t] } := ⟨h.bytes, Nat.le_succ_of_le h.names, Nat.le_succ_of_le h.tags, by show (r.kids ++ [t]).length ≤ k + 1; simp; exact h.kids, h.spelt⟩
theorem Inv.short {k : Nat} {r : RuleV} (h : Inv k r) (hk : k ≤ 1048576) : Short r := ⟨h.bytes, Nat.le_trans h.names hk, Nat.le_trans h.tags hk, Nat.le_trans h.kids hk⟩
set_option maxHeartbeats 2000000 in
theorem label_0 (rs : List RuleV) (J : ByteArray) (lo hi : Nat) (r : RuleV) (a4 a5 a6 a7 : Option Addr) (c4 c5 c6 c7 : Nat) (T : ByteArray) (w : World) (hr : allV (kindI rs) rs) (hT : T.size ≤ 1048576) (hsh : Short r) (_hlo : lo ≤ w.heap.size) (hhi : hi ≤ w.heap.size) (ht : Tabs w) (h : OwnRule lo hi r [.string r.name, .int .i64 r.kind, .int .i64 r.size, .bool r.little, .slice a4 r.bytes.length c4, .slice a5 r.names.length c5, .slice a6 r.tags.length c6, .slice a7 r.kids.length c7] w) (h6 : r.kind ≠ 6) (h7 : ¬ (r.kind = 7 ∧ 0 < r.kids.length)) :
  Calls Tryz.prog 137 #[.agg #[.string r.name, .int .i64 r.kind, .int .i64 r.size, .bool r.little, .slice a4 r.bytes.length c4, .slice a5 r.names.length c5, .slice a6 r.tags.length c6, .slice a7 r.kids.length c7], .string T] w (LabelOut rs J lo [.string r.name, .int .i64 r.kind, .int .i64 r.size, .bool r.little, .slice a4 r.bytes.length c4, .slice a5 r.names.length c5, .slice a6 r.tags.length c6, .slice a7 r.kids.length c7] r T w) := by
 obtain ⟨w0, hw0⟩ : ∃ w0, w0 = (w.alloc (.cells #[.string r.name, .int .i64 r.kind, .int .i64 r.size, .bool r.little, .slice a4 r.bytes.length c4, .slice a5 r.names.length c5, .slice a6 r.tags.length c6, .slice a7 r.kids.length c7] 59)).alloc (.cells #[.string ⟨#[]⟩, .int .i64 0, .int .i64 0, .bool false, .slice none 0 0, .slice none 0 0, .slice none 0 0, .slice none 0 0] 59) := ⟨_, rfl⟩
 have hB0 : Below w.heap.size w w0 := by subst hw0; exact ((Below.refl _ w).alloc (Nat.le_refl _) _).alloc (by simp) _
 have hz0 : w0.heap.size = w.heap.size + 2 := by subst hw0; simp
 have hR : CellsAt w.heap.size [.string r.name, .int .i64 r.kind, .int .i64 r.size, .bool r.little, .slice a4 r.bytes.length c4, .slice a5 r.names.length c5, .slice a6 r.tags.length c6, .slice a7 r.kids.length c7] w0 := by subst hw0; exact (CellsAt.new w _ _).below ((Below.refl _ _).alloc (Nat.le_refl _) _)
 have hZ : CellsAt (w.heap.size + 1) zeroCs w0 := by
  subst hw0
  have h1 := CellsAt.new (w.alloc (.cells #[.string r.name, .int .i64 r.kind, .int .i64 r.size, .bool r.little, .slice a4 r.bytes.length c4, .slice a5 r.names.length c5, .slice a6 r.tags.length c6, .slice a7 r.kids.length c7] 59)) zeroCs 59
  simpa [zeroCs] using h1
 have HB := Lib.hid hB0
 have HR := Lib.hid hR
 have HZ := Lib.hid hZ
 have HW := Lib.hid hw0
 have HO := Lib.hid (h.below hB0)
 have HT := Lib.hid (ht.below hB0)
 have HS := Lib.hid hsh
 have H9 : Hid (∀ b ∈ ([.string r.name, .int .i64 r.kind, .int .i64 r.size, .bool r.little, .slice a4 r.bytes.length c4, .slice a5 r.names.length c5, .slice a6 r.tags.length c6, .slice a7 r.kids.length c7] : List Value).flatMap sliceBlk, lo ≤ b ∧ b < hi) := by
  obtain ⟨_, _, _, _, _, _, _, _, _, _, _, _, _, _, h9⟩ := h
  exact h9
 have hca := cutA_le 58 T
 have hcb := cutB_le 58 T
 have g6 : (r.kind == 6) = false := by simpa using h6
 have HP := Lib.hid (label_none (J := J) (T := T) hr h6 h7)
 have g7 : (r.kind == 7) = false ∨ ((r.kind == 7) = true ∧ decide (0 < (r.kids.length : Int)) = false ∧ decide (0 < r.kids.length) = false ∧ ¬ (0 < r.kids.length)) := by
  by_cases e : r.kind = 7
  ·exact .inr ⟨by simpa using e, decide_eq_false (by omega), decide_eq_false (by omega), by omega⟩
  ·exact .inl (by simpa using e)
 clear h6 h7 hr
 clear hB0 hR hZ hw0 h ht hsh
 go_enter Tryz.func137, Tryz.ntmps137
 go_wp2_with fail
 rw [← HW.out]
 clear HW
 refine (cut58I T _ (by omega)).mono ?_
 rintro e w1 ⟨rfl, hb1⟩
 replace HR := Lib.hid (HR.out.below hb1)
 replace HZ := Lib.hid (HZ.out.below hb1)
 replace HO := Lib.hid (HO.out.below hb1)
 replace HT := Lib.hid (HT.out.below hb1)
 have hs1 := hb1.size
 replace HB := Lib.hid (HB.out.trans (hb1.mono HB.out.size))
 clear hb1
 generalize cutA 58 T = ca at *
 generalize cutB 58 T = cb at *
 generalize cutK 58 T = ck at *
 obtain ⟨r0, -⟩ := HR.out 0 _ rfl
 obtain ⟨r1, -⟩ := HR.out 1 _ rfl
 obtain ⟨r2, -⟩ := HR.out 2 _ rfl
 obtain ⟨r3, -⟩ := HR.out 3 _ rfl
 obtain ⟨r4, -⟩ := HR.out 4 _ rfl
 obtain ⟨r5, -⟩ := HR.out 5 _ rfl
 obtain ⟨r6, -⟩ := HR.out 6 _ rfl
 obtain ⟨r7, -⟩ := HR.out 7 _ rfl
 obtain ⟨z0, t0⟩ := HZ.out 0 _ rfl
 obtain ⟨z1, t1⟩ := HZ.out 1 _ rfl
 obtain ⟨z2, t2⟩ := HZ.out 2 _ rfl
 obtain ⟨z3, t3⟩ := HZ.out 3 _ rfl
 obtain ⟨z4, t4⟩ := HZ.out 4 _ rfl
 obtain ⟨z5, t5⟩ := HZ.out 5 _ rfl
 obtain ⟨z6, t6⟩ := HZ.out 6 _ rfl
 obtain ⟨z7, t7⟩ := HZ.out 7 _ rfl
 have NE1 : Hid (∀ b ∈ ([.string r.name, .int .i64 r.kind, .int .i64 r.size, .bool r.little, .slice a4 r.bytes.length c4, .slice a5 r.names.length c5, .slice a6 r.tags.length c6, .slice a7 r.kids.length c7] : List Value).flatMap sliceBlk, b ≠ w.heap.size + 1) := fun b hb => by have := H9.out b hb; omega
 clear HR HZ
 have HIN : Hid (∀ k, k ≤ 1000 → Inv k r → Inv (k + 1) r) := fun k _ h => inv_more h
 rcases g7 with g7 | ⟨g7, g8, g8n, g8p⟩
 ·go_wp2
  (try simp only [Exit.inBlock, Exit.then])
  refine bodyPost_ret (v := .tuple #[.agg #[.string r.name, .int .i64 r.kind, .int .i64 r.size, .bool r.little, .slice a4 r.bytes.length c4, .slice a5 r.names.length c5, .slice a6 r.tags.length c6, .slice a7 r.kids.length c7], .string T]) ?_ rfl ?_
  ·simp [results, Tryz.results137, go_sem, z0, z1, z2, z3, z4, z5, z6, z7]
  ·exact ⟨_, _, _, rfl, ((((((((((HO.out.more (Nat.le_refl _) (show hi ≤ w1.heap.size by omega))).setOut (x := w.heap.size + 1) (i := 0) (fun b hb => NE1.out b hb)).setOut (x := w.heap.size + 1) (i := 1) (fun b hb => NE1.out b hb)).setOut (x := w.heap.size + 1) (i := 2) (fun b hb => NE1.out b hb)).setOut (x := w.heap.size + 1) (i := 3) (fun b hb => NE1.out b hb)).setOut (x := w.heap.size + 1) (i := 4) (fun b hb => NE1.out b hb)).setOut (x := w.heap.size + 1) (i := 5) (fun b hb => NE1.out b hb)).setOut (x := w.heap.size + 1) (i := 6) (fun b hb => NE1.out b hb)).setOut (x := w.heap.size + 1) (i := 7) (fun b hb => NE1.out b hb)).more (Nat.le_refl _) (by simp), ((((((((HB.out.setCell (p := ⟨w.heap.size + 1, 0, none⟩) (by show w.heap.size ≤ w.heap.size + 1; omega) _).setCell (p := ⟨w.heap.size + 1, 1, none⟩) (by show w.heap.size ≤ w.heap.size + 1; omega) _).setCell (p := ⟨w.heap.size + 1, 2, none⟩) (by show w.heap.size ≤ w.heap.size + 1; omega) _).setCell (p := ⟨w.heap.size + 1, 3, none⟩) (by show w.heap.size ≤ w.heap.size + 1; omega) _).setCell (p := ⟨w.heap.size + 1, 4, none⟩) (by show w.heap.size ≤ w.heap.size + 1; omega) _).setCell (p := ⟨w.heap.size + 1, 5, none⟩) (by show w.heap.size ≤ w.heap.size + 1; omega) _).setCell (p := ⟨w.heap.size + 1, 6, none⟩) (by show w.heap.size ≤ w.heap.size + 1; omega) _).setCell (p := ⟨w.heap.size + 1, 7, none⟩) (by show w.heap.size ≤ w.heap.size + 1; omega) _), fun b hb => .inl hb, Nat.le_refl _, rfl, HIN.out, HP.out⟩
 ·go_wp2
  (try simp only [Exit.inBlock, Exit.then])
  refine bodyPost_ret (v := .tuple #[.agg #[.string r.name, .int .i64 r.kind, .int .i64 r.size, .bool r.little, .slice a4 r.bytes.length c4, .slice a5 r.names.length c5, .slice a6 r.tags.length c6, .slice a7 r.kids.length c7], .string T]) ?_ rfl ?_
  ·simp [results, Tryz.results137, go_sem, z0, z1, z2, z3, z4, z5, z6, z7]
  ·exact ⟨_, _, _, rfl, ((((((((((HO.out.more (Nat.le_refl _) (show hi ≤ w1.heap.size by omega))).setOut (x := w.heap.size + 1) (i := 0) (fun b hb => NE1.out b hb)).setOut (x := w.heap.size + 1) (i := 1) (fun b hb => NE1.out b hb)).setOut (x := w.heap.size + 1) (i := 2) (fun b hb => NE1.out b hb)).setOut (x := w.heap.size + 1) (i := 3) (fun b hb => NE1.out b hb)).setOut (x := w.heap.size + 1) (i := 4) (fun b hb => NE1.out b hb)).setOut (x := w.heap.size + 1) (i := 5) (fun b hb => NE1.out b hb)).setOut (x := w.heap.size + 1) (i := 6) (fun b hb => NE1.out b hb)).setOut (x := w.heap.size + 1) (i := 7) (fun b hb => NE1.out b hb)).more (Nat.le_refl _) (by simp), ((((((((HB.out.setCell (p := ⟨w.heap.size + 1, 0, none⟩) (by show w.heap.size ≤ w.heap.size + 1; omega) _).setCell (p := ⟨w.heap.size + 1, 1, none⟩) (by show w.heap.size ≤ w.heap.size + 1; omega) _).setCell (p := ⟨w.heap.size + 1, 2, none⟩) (by show w.heap.size ≤ w.heap.size + 1; omega) _).setCell (p := ⟨w.heap.size + 1, 3, none⟩) (by show w.heap.size ≤ w.heap.size + 1; omega) _).setCell (p := ⟨w.heap.size + 1, 4, none⟩) (by show w.heap.size ≤ w.heap.size + 1; omega) _).setCell (p := ⟨w.heap.size + 1, 5, none⟩) (by show w.heap.size ≤ w.heap.size + 1; omega) _).setCell (p := ⟨w.heap.size + 1, 6, none⟩) (by show w.heap.size ≤ w.heap.size + 1; omega) _).setCell (p := ⟨w.heap.size + 1, 7, none⟩) (by show w.heap.size ≤ w.heap.size + 1; omega) _), fun b hb => .inl hb, Nat.le_refl _, rfl, HIN.out, HP.out⟩
set_option maxHeartbeats 2000000 in
theorem label_6 (rs : List RuleV) (J : ByteArray) (lo hi : Nat) (r : RuleV) (a4 a5 a6 a7 : Option Addr) (c4 c5 c6 c7 : Nat) (T : ByteArray) (w : World) (hr : allV (kindI rs) rs) (hT : T.size ≤ 1048576) (hsh : Short r) (hlo : lo ≤ w.heap.size) (hhi : hi ≤ w.heap.size) (ht : Tabs w) (h : OwnRule lo hi r [.string r.name, .int .i64 r.kind, .int .i64 r.size, .bool r.little, .slice a4 r.bytes.length c4, .slice a5 r.names.length c5, .slice a6 r.tags.length c6, .slice a7 r.kids.length c7] w) (h6 : r.kind = 6) :
  Calls Tryz.prog 137 #[.agg #[.string r.name, .int .i64 r.kind, .int .i64 r.size, .bool r.little, .slice a4 r.bytes.length c4, .slice a5 r.names.length c5, .slice a6 r.tags.length c6, .slice a7 r.kids.length c7], .string T] w (LabelOut rs J lo [.string r.name, .int .i64 r.kind, .int .i64 r.size, .bool r.little, .slice a4 r.bytes.length c4, .slice a5 r.names.length c5, .slice a6 r.tags.length c6, .slice a7 r.kids.length c7] r T w) := by
 obtain ⟨w0, hw0⟩ : ∃ w0, w0 = (w.alloc (.cells #[.string r.name, .int .i64 r.kind, .int .i64 r.size, .bool r.little, .slice a4 r.bytes.length c4, .slice a5 r.names.length c5, .slice a6 r.tags.length c6, .slice a7 r.kids.length c7] 59)).alloc (.cells #[.string ⟨#[]⟩, .int .i64 0, .int .i64 0, .bool false, .slice none 0 0, .slice none 0 0, .slice none 0 0, .slice none 0 0] 59) := ⟨_, rfl⟩
 have hB0 : Below w.heap.size w w0 := by subst hw0; exact ((Below.refl _ w).alloc (Nat.le_refl _) _).alloc (by simp) _
 have hz0 : w0.heap.size = w.heap.size + 2 := by subst hw0; simp
 have hR : CellsAt w.heap.size [.string r.name, .int .i64 r.kind, .int .i64 r.size, .bool r.little, .slice a4 r.bytes.length c4, .slice a5 r.names.length c5, .slice a6 r.tags.length c6, .slice a7 r.kids.length c7] w0 := by subst hw0; exact (CellsAt.new w _ _).below ((Below.refl _ _).alloc (Nat.le_refl _) _)
 have hZ : CellsAt (w.heap.size + 1) zeroCs w0 := by
  subst hw0
  have h1 := CellsAt.new (w.alloc (.cells #[.string r.name, .int .i64 r.kind, .int .i64 r.size, .bool r.little, .slice a4 r.bytes.length c4, .slice a5 r.names.length c5, .slice a6 r.tags.length c6, .slice a7 r.kids.length c7] 59)) zeroCs 59
  simpa [zeroCs] using h1
 have HB := Lib.hid hB0
 have HR := Lib.hid hR
 have HZ := Lib.hid hZ
 have HW := Lib.hid hw0
 have HO := Lib.hid (h.below hB0)
 have HT := Lib.hid (ht.below hB0)
 have HS := Lib.hid hsh
 have H9 : Hid (∀ b ∈ ([.string r.name, .int .i64 r.kind, .int .i64 r.size, .bool r.little, .slice a4 r.bytes.length c4, .slice a5 r.names.length c5, .slice a6 r.tags.length c6, .slice a7 r.kids.length c7] : List Value).flatMap sliceBlk, lo ≤ b ∧ b < hi) := by
  obtain ⟨_, _, _, _, _, _, _, _, _, _, _, _, _, _, h9⟩ := h
  exact h9
 have hca := cutA_le 58 T
 have hcb := cutB_le 58 T
 have g6 : (r.kind == 6) = true := by simpa using h6
 have HP := Lib.hid (label_six (J := J) (T := T) hr h6)
 clear h6 hr
 clear hB0 hR hZ hw0 h ht hsh
 go_enter Tryz.func137, Tryz.ntmps137
 go_wp2_with fail
 rw [← HW.out]
 clear HW
 refine (cut58I T _ (by omega)).mono ?_
 rintro e w1 ⟨rfl, hb1⟩
 replace HR := Lib.hid (HR.out.below hb1)
 replace HZ := Lib.hid (HZ.out.below hb1)
 replace HO := Lib.hid (HO.out.below hb1)
 replace HT := Lib.hid (HT.out.below hb1)
 have hs1 := hb1.size
 replace HB := Lib.hid (HB.out.trans (hb1.mono HB.out.size))
 clear hb1
 generalize cutA 58 T = ca at *
 generalize cutB 58 T = cb at *
 generalize cutK 58 T = ck at *
 obtain ⟨q5, -⟩ := HR.out 5 _ rfl
 have q1 := (HR.out 1 _ rfl).1
 have hn5 : r.names.length ≤ c5 ∧ (a5 = none → c5 = 0) := by
  obtain ⟨x4, y4, x5, y5, x6, y6, x7, y7, e, -, g5, -⟩ := HO.out
  simp only [List.cons.injEq, Value.slice.injEq, true_and, and_true] at e
  obtain ⟨-, ⟨rfl, rfl⟩, -⟩ := e
  exact g5.2
 have hrd5 : Hid (RdF Value.string a5 r.names w1) := by
  obtain ⟨x4, y4, x5, y5, x6, y6, x7, y7, e, -, g5, -⟩ := HO.out
  simp only [List.cons.injEq, Value.slice.injEq, true_and, and_true] at e
  obtain ⟨-, ⟨rfl, rfl⟩, -⟩ := e
  exact g5.rd
 go_wp2_with fail
 refine (fresh_str a5 r.names c5 ca _ HS.out.2.1 hn5.1 hn5.2 hrd5.out).mono ?_
 rintro e w2 ⟨b, c, rfl, hbb, hrow, hb2⟩
 have hs2 := hb2.size
 have hbw : b < w2.heap.size := by
  rcases hrow.1 with h0 | ⟨b', off, e, h1, h2⟩
  ·simp at h0
  ·injection e with e
   injection e with e
   subst e
   exact cell_lt (h2 0 (by simp)).1
 have HN := Lib.hid (HO.out.names hb2 (show hi ≤ b by omega) (show lo ≤ b by omega) hbw hrow)
 replace HR := Lib.hid (HR.out.below hb2)
 replace HZ := Lib.hid (HZ.out.below hb2)
 replace HB := Lib.hid (HB.out.trans (hb2.mono HB.out.size))
 clear hb2 hrow q5 q1
 obtain ⟨r0, -⟩ := HR.out 0 _ rfl
 obtain ⟨r1, -⟩ := HR.out 1 _ rfl
 obtain ⟨r2, -⟩ := HR.out 2 _ rfl
 obtain ⟨r3, -⟩ := HR.out 3 _ rfl
 obtain ⟨r4, -⟩ := HR.out 4 _ rfl
 obtain ⟨r5, p5⟩ := HR.out 5 _ rfl
 obtain ⟨r6, -⟩ := HR.out 6 _ rfl
 obtain ⟨r7, -⟩ := HR.out 7 _ rfl
 obtain ⟨z0, t0⟩ := HZ.out 0 _ rfl
 obtain ⟨z1, t1⟩ := HZ.out 1 _ rfl
 obtain ⟨z2, t2⟩ := HZ.out 2 _ rfl
 obtain ⟨z3, t3⟩ := HZ.out 3 _ rfl
 obtain ⟨z4, t4⟩ := HZ.out 4 _ rfl
 obtain ⟨z5, t5⟩ := HZ.out 5 _ rfl
 obtain ⟨z6, t6⟩ := HZ.out 6 _ rfl
 obtain ⟨z7, t7⟩ := HZ.out 7 _ rfl
 have NE0 : Hid (∀ q ∈ ([.string r.name, .int .i64 r.kind, .int .i64 r.size, .bool r.little, .slice a4 r.bytes.length c4, .slice (some ⟨b, 0, none⟩) (r.names ++ [ca]).length c, .slice a6 r.tags.length c6, .slice a7 r.kids.length c7] : List Value).flatMap sliceBlk, q ≠ w.heap.size) := fun q hq => by
  rw [blks_eq] at hq
  have h9 := H9.out
  rw [blks_eq] at h9
  obtain ⟨m4, m5, m6, m7⟩ := mem4 h9
  simp only [List.mem_append] at hq
  rcases hq with hq | hq | hq | hq
  ·have := m4 q hq; omega
  ·have := blk_new b _ c q hq; omega
  ·have := m6 q hq; omega
  ·have := m7 q hq; omega
 have NE1 : Hid (∀ q ∈ ([.string r.name, .int .i64 r.kind, .int .i64 r.size, .bool r.little, .slice a4 r.bytes.length c4, .slice (some ⟨b, 0, none⟩) (r.names ++ [ca]).length c, .slice a6 r.tags.length c6, .slice a7 r.kids.length c7] : List Value).flatMap sliceBlk, q ≠ w.heap.size + 1) := fun q hq => by
  rw [blks_eq] at hq
  have h9 := H9.out
  rw [blks_eq] at h9
  obtain ⟨m4, m5, m6, m7⟩ := mem4 h9
  simp only [List.mem_append] at hq
  rcases hq with hq | hq | hq | hq
  ·have := m4 q hq; omega
  ·have := blk_new b _ c q hq; omega
  ·have := m6 q hq; omega
  ·have := m7 q hq; omega
 have NB : Hid (∀ q ∈ ([.string r.name, .int .i64 r.kind, .int .i64 r.size, .bool r.little, .slice a4 r.bytes.length c4, .slice (some ⟨b, 0, none⟩) (r.names ++ [ca]).length c, .slice a6 r.tags.length c6, .slice a7 r.kids.length c7] : List Value).flatMap sliceBlk, q ∈ ([.string r.name, .int .i64 r.kind, .int .i64 r.size, .bool r.little, .slice a4 r.bytes.length c4, .slice a5 r.names.length c5, .slice a6 r.tags.length c6, .slice a7 r.kids.length c7] : List Value).flatMap sliceBlk ∨ w.heap.size ≤ q) := fun q hq => by
  rw [blks_eq] at hq ⊢
  simp only [List.mem_append] at hq
  rcases hq with hq | hq | hq | hq
  ·exact .inl (by simp [hq])
  ·exact .inr (by have := blk_new b _ c q hq; omega)
  ·exact .inl (by simp [hq])
  ·exact .inl (by simp [hq])
 clear HR HZ
 have HIN : Hid (∀ k, k ≤ 1000 → Inv k r → Inv (k + 1) { r with names := r.names ++ [ca] }) := fun k _ h => inv_names h (by omega)
 go_wp2
 (try simp only [Exit.inBlock, Exit.then])
 refine bodyPost_ret (v := .tuple #[.agg #[.string r.name, .int .i64 r.kind, .int .i64 r.size, .bool r.little, .slice a4 r.bytes.length c4, .slice (some ⟨b, 0, none⟩) (r.names ++ [ca]).length c, .slice a6 r.tags.length c6, .slice a7 r.kids.length c7], .string cb]) ?_ rfl ?_
 ·simp [results, Tryz.results137, go_sem, z0, z1, z2, z3, z4, z5, z6, z7]
 ·exact ⟨_, _, _, rfl, (((((((((HN.out.setOut (x := w.heap.size) (i := 5) (fun b hb => NE0.out b hb)).setOut (x := w.heap.size + 1) (i := 0) (fun b hb => NE1.out b hb)).setOut (x := w.heap.size + 1) (i := 1) (fun b hb => NE1.out b hb)).setOut (x := w.heap.size + 1) (i := 2) (fun b hb => NE1.out b hb)).setOut (x := w.heap.size + 1) (i := 3) (fun b hb => NE1.out b hb)).setOut (x := w.heap.size + 1) (i := 4) (fun b hb => NE1.out b hb)).setOut (x := w.heap.size + 1) (i := 5) (fun b hb => NE1.out b hb)).setOut (x := w.heap.size + 1) (i := 6) (fun b hb => NE1.out b hb)).setOut (x := w.heap.size + 1) (i := 7) (fun b hb => NE1.out b hb)).more (Nat.le_refl _) (by simp), (((((((((HB.out.setCell (p := ⟨w.heap.size, 5, none⟩) (by show w.heap.size ≤ w.heap.size; omega) _).setCell (p := ⟨w.heap.size + 1, 0, none⟩) (by show w.heap.size ≤ w.heap.size + 1; omega) _).setCell (p := ⟨w.heap.size + 1, 1, none⟩) (by show w.heap.size ≤ w.heap.size + 1; omega) _).setCell (p := ⟨w.heap.size + 1, 2, none⟩) (by show w.heap.size ≤ w.heap.size + 1; omega) _).setCell (p := ⟨w.heap.size + 1, 3, none⟩) (by show w.heap.size ≤ w.heap.size + 1; omega) _).setCell (p := ⟨w.heap.size + 1, 4, none⟩) (by show w.heap.size ≤ w.heap.size + 1; omega) _).setCell (p := ⟨w.heap.size + 1, 5, none⟩) (by show w.heap.size ≤ w.heap.size + 1; omega) _).setCell (p := ⟨w.heap.size + 1, 6, none⟩) (by show w.heap.size ≤ w.heap.size + 1; omega) _).setCell (p := ⟨w.heap.size + 1, 7, none⟩) (by show w.heap.size ≤ w.heap.size + 1; omega) _), NB.out, hcb, rfl, HIN.out, HP.out⟩
set_option maxHeartbeats 2000000 in
theorem label_7 (rs : List RuleV) (J : ByteArray) (lo hi : Nat) (r : RuleV) (a4 a5 a6 a7 : Option Addr) (c4 c5 c6 c7 : Nat) (T : ByteArray) (w : World) (hr : allV (kindI rs) rs) (hT : T.size ≤ 1048576) (hsh : Short r) (hlo : lo ≤ w.heap.size) (hhi : hi ≤ w.heap.size) (ht : Tabs w) (h : OwnRule lo hi r [.string r.name, .int .i64 r.kind, .int .i64 r.size, .bool r.little, .slice a4 r.bytes.length c4, .slice a5 r.names.length c5, .slice a6 r.tags.length c6, .slice a7 r.kids.length c7] w) (h7 : r.kind = 7) (h0 : 0 < r.kids.length) :
  Calls Tryz.prog 137 #[.agg #[.string r.name, .int .i64 r.kind, .int .i64 r.size, .bool r.little, .slice a4 r.bytes.length c4, .slice a5 r.names.length c5, .slice a6 r.tags.length c6, .slice a7 r.kids.length c7], .string T] w (LabelOut rs J lo [.string r.name, .int .i64 r.kind, .int .i64 r.size, .bool r.little, .slice a4 r.bytes.length c4, .slice a5 r.names.length c5, .slice a6 r.tags.length c6, .slice a7 r.kids.length c7] r T w) := by
 obtain ⟨w0, hw0⟩ : ∃ w0, w0 = (w.alloc (.cells #[.string r.name, .int .i64 r.kind, .int .i64 r.size, .bool r.little, .slice a4 r.bytes.length c4, .slice a5 r.names.length c5, .slice a6 r.tags.length c6, .slice a7 r.kids.length c7] 59)).alloc (.cells #[.string ⟨#[]⟩, .int .i64 0, .int .i64 0, .bool false, .slice none 0 0, .slice none 0 0, .slice none 0 0, .slice none 0 0] 59) := ⟨_, rfl⟩
 have hB0 : Below w.heap.size w w0 := by subst hw0; exact ((Below.refl _ w).alloc (Nat.le_refl _) _).alloc (by simp) _
 have hz0 : w0.heap.size = w.heap.size + 2 := by subst hw0; simp
 have hR : CellsAt w.heap.size [.string r.name, .int .i64 r.kind, .int .i64 r.size, .bool r.little, .slice a4 r.bytes.length c4, .slice a5 r.names.length c5, .slice a6 r.tags.length c6, .slice a7 r.kids.length c7] w0 := by subst hw0; exact (CellsAt.new w _ _).below ((Below.refl _ _).alloc (Nat.le_refl _) _)
 have hZ : CellsAt (w.heap.size + 1) zeroCs w0 := by
  subst hw0
  have h1 := CellsAt.new (w.alloc (.cells #[.string r.name, .int .i64 r.kind, .int .i64 r.size, .bool r.little, .slice a4 r.bytes.length c4, .slice a5 r.names.length c5, .slice a6 r.tags.length c6, .slice a7 r.kids.length c7] 59)) zeroCs 59
  simpa [zeroCs] using h1
 have HB := Lib.hid hB0
 have HR := Lib.hid hR
 have HZ := Lib.hid hZ
 have HW := Lib.hid hw0
 have HO := Lib.hid (h.below hB0)
 have HT := Lib.hid (ht.below hB0)
 have HS := Lib.hid hsh
 have H9 : Hid (∀ b ∈ ([.string r.name, .int .i64 r.kind, .int .i64 r.size, .bool r.little, .slice a4 r.bytes.length c4, .slice a5 r.names.length c5, .slice a6 r.tags.length c6, .slice a7 r.kids.length c7] : List Value).flatMap sliceBlk, lo ≤ b ∧ b < hi) := by
  obtain ⟨_, _, _, _, _, _, _, _, _, _, _, _, _, _, h9⟩ := h
  exact h9
 have hca := cutA_le 58 T
 have hcb := cutB_le 58 T
 have g6 : (r.kind == 6) = false := by rw [h7]; rfl
 have g7 : (r.kind == 7) = true := by simpa using h7
 have g8 : decide (0 < (r.kids.length : Int)) = true := decide_eq_true (by omega)
 have g9 : (0 : Int) < (r.kids.length : Int) := by omega
 have g8n : decide (0 < r.kids.length) = true := decide_eq_true h0
 have HP := fun n => Lib.hid (fun hn => label_seven (J := J) (T := T) (n := n) hr h7 h0 hn)
 clear h7 hr
 clear hB0 hR hZ hw0 h ht hsh
 go_enter Tryz.func137, Tryz.ntmps137
 go_wp2_with fail
 rw [← HW.out]
 clear HW
 refine (cut58I T _ (by omega)).mono ?_
 rintro e w1 ⟨rfl, hb1⟩
 replace HR := Lib.hid (HR.out.below hb1)
 replace HZ := Lib.hid (HZ.out.below hb1)
 replace HO := Lib.hid (HO.out.below hb1)
 replace HT := Lib.hid (HT.out.below hb1)
 have hs1 := hb1.size
 replace HB := Lib.hid (HB.out.trans (hb1.mono HB.out.size))
 clear hb1
 generalize cutA 58 T = ca at *
 generalize cutB 58 T = cb at *
 generalize cutK 58 T = ck at *
 have q1 := (HR.out 1 _ rfl).1
 have q7 := (HR.out 7 _ rfl).1
 go_wp2_with fail
 refine (pint_impl ca _ (by omega) HT.out).mono ?_
 rintro e w1b ⟨n, ok, rfl, hn1, hn2, hb1⟩
 replace HR := Lib.hid (HR.out.below hb1)
 replace HZ := Lib.hid (HZ.out.below hb1)
 replace HO := Lib.hid (HO.out.below hb1)
 have hs1b := hb1.size
 replace HB := Lib.hid (HB.out.trans (hb1.mono HB.out.size))
 have HP2 := Lib.hid ((HP n).out hn2)
 clear hb1 hn2 HP q1 q7
 have q6 := (HR.out 6 _ rfl).1
 have hn6 : r.tags.length ≤ c6 ∧ (a6 = none → c6 = 0) := by
  obtain ⟨x4, y4, x5, y5, x6, y6, x7, y7, e, -, -, g6, -⟩ := HO.out
  simp only [List.cons.injEq, Value.slice.injEq, true_and, and_true] at e
  obtain ⟨-, -, ⟨rfl, rfl⟩, -⟩ := e
  exact g6.2
 have hrd6 : Hid (RdF (Value.int .i64) a6 r.tags w1b) := by
  obtain ⟨x4, y4, x5, y5, x6, y6, x7, y7, e, -, -, g6, -⟩ := HO.out
  simp only [List.cons.injEq, Value.slice.injEq, true_and, and_true] at e
  obtain ⟨-, -, ⟨rfl, rfl⟩, -⟩ := e
  exact g6.rd
 go_wp2_with fail
 refine (fresh_int a6 r.tags c6 (n : Int) _ HS.out.2.2.1 hn6.1 hn6.2 hrd6.out).mono ?_
 rintro e w2 ⟨b, c, rfl, hbb, hrow, hb2⟩
 have hs2 := hb2.size
 have hbw : b < w2.heap.size := by
  rcases hrow.1 with h0 | ⟨b', off, e, h1, h2⟩
  ·simp at h0
  ·injection e with e
   injection e with e
   subst e
   exact cell_lt (h2 0 (by simp)).1
 have HN := Lib.hid (HO.out.tags hb2 (show hi ≤ b by omega) (show lo ≤ b by omega) hbw hrow)
 replace HR := Lib.hid (HR.out.below hb2)
 replace HZ := Lib.hid (HZ.out.below hb2)
 replace HB := Lib.hid (HB.out.trans (hb2.mono HB.out.size))
 clear hb2 hrow q6
 obtain ⟨r0, -⟩ := HR.out 0 _ rfl
 obtain ⟨r1, -⟩ := HR.out 1 _ rfl
 obtain ⟨r2, -⟩ := HR.out 2 _ rfl
 obtain ⟨r3, -⟩ := HR.out 3 _ rfl
 obtain ⟨r4, -⟩ := HR.out 4 _ rfl
 obtain ⟨r5, -⟩ := HR.out 5 _ rfl
 obtain ⟨r6, p6⟩ := HR.out 6 _ rfl
 obtain ⟨r7, -⟩ := HR.out 7 _ rfl
 obtain ⟨z0, t0⟩ := HZ.out 0 _ rfl
 obtain ⟨z1, t1⟩ := HZ.out 1 _ rfl
 obtain ⟨z2, t2⟩ := HZ.out 2 _ rfl
 obtain ⟨z3, t3⟩ := HZ.out 3 _ rfl
 obtain ⟨z4, t4⟩ := HZ.out 4 _ rfl
 obtain ⟨z5, t5⟩ := HZ.out 5 _ rfl
 obtain ⟨z6, t6⟩ := HZ.out 6 _ rfl
 obtain ⟨z7, t7⟩ := HZ.out 7 _ rfl
 have NE0 : Hid (∀ q ∈ ([.string r.name, .int .i64 r.kind, .int .i64 r.size, .bool r.little, .slice a4 r.bytes.length c4, .slice a5 r.names.length c5, .slice (some ⟨b, 0, none⟩) (r.tags ++ [(n : Int)]).length c, .slice a7 r.kids.length c7] : List Value).flatMap sliceBlk, q ≠ w.heap.size) := fun q hq => by
  rw [blks_eq] at hq
  have h9 := H9.out
  rw [blks_eq] at h9
  obtain ⟨m4, m5, m6, m7⟩ := mem4 h9
  simp only [List.mem_append] at hq
  rcases hq with hq | hq | hq | hq
  ·have := m4 q hq; omega
  ·have := m5 q hq; omega
  ·have := blk_new b _ c q hq; omega
  ·have := m7 q hq; omega
 have NE1 : Hid (∀ q ∈ ([.string r.name, .int .i64 r.kind, .int .i64 r.size, .bool r.little, .slice a4 r.bytes.length c4, .slice a5 r.names.length c5, .slice (some ⟨b, 0, none⟩) (r.tags ++ [(n : Int)]).length c, .slice a7 r.kids.length c7] : List Value).flatMap sliceBlk, q ≠ w.heap.size + 1) := fun q hq => by
  rw [blks_eq] at hq
  have h9 := H9.out
  rw [blks_eq] at h9
  obtain ⟨m4, m5, m6, m7⟩ := mem4 h9
  simp only [List.mem_append] at hq
  rcases hq with hq | hq | hq | hq
  ·have := m4 q hq; omega
  ·have := m5 q hq; omega
  ·have := blk_new b _ c q hq; omega
  ·have := m7 q hq; omega
 have NB : Hid (∀ q ∈ ([.string r.name, .int .i64 r.kind, .int .i64 r.size, .bool r.little, .slice a4 r.bytes.length c4, .slice a5 r.names.length c5, .slice (some ⟨b, 0, none⟩) (r.tags ++ [(n : Int)]).length c, .slice a7 r.kids.length c7] : List Value).flatMap sliceBlk, q ∈ ([.string r.name, .int .i64 r.kind, .int .i64 r.size, .bool r.little, .slice a4 r.bytes.length c4, .slice a5 r.names.length c5, .slice a6 r.tags.length c6, .slice a7 r.kids.length c7] : List Value).flatMap sliceBlk ∨ w.heap.size ≤ q) := fun q hq => by
  rw [blks_eq] at hq ⊢
  simp only [List.mem_append] at hq
  rcases hq with hq | hq | hq | hq
  ·exact .inl (by simp [hq])
  ·exact .inl (by simp [hq])
  ·exact .inr (by have := blk_new b _ c q hq; omega)
  ·exact .inl (by simp [hq])
 clear HR HZ
 have HIN : Hid (∀ k, k ≤ 1000 → Inv k r → Inv (k + 1) { r with tags := r.tags ++ [(n : Int)] }) := fun k _ h => inv_tags h
 go_wp2
 (try simp only [Exit.inBlock, Exit.then])
 refine bodyPost_ret (v := .tuple #[.agg #[.string r.name, .int .i64 r.kind, .int .i64 r.size, .bool r.little, .slice a4 r.bytes.length c4, .slice a5 r.names.length c5, .slice (some ⟨b, 0, none⟩) (r.tags ++ [(n : Int)]).length c, .slice a7 r.kids.length c7], .string cb]) ?_ rfl ?_
 ·simp [results, Tryz.results137, go_sem, z0, z1, z2, z3, z4, z5, z6, z7]
 ·exact ⟨_, _, _, rfl, (((((((((HN.out.setOut (x := w.heap.size) (i := 6) (fun b hb => NE0.out b hb)).setOut (x := w.heap.size + 1) (i := 0) (fun b hb => NE1.out b hb)).setOut (x := w.heap.size + 1) (i := 1) (fun b hb => NE1.out b hb)).setOut (x := w.heap.size + 1) (i := 2) (fun b hb => NE1.out b hb)).setOut (x := w.heap.size + 1) (i := 3) (fun b hb => NE1.out b hb)).setOut (x := w.heap.size + 1) (i := 4) (fun b hb => NE1.out b hb)).setOut (x := w.heap.size + 1) (i := 5) (fun b hb => NE1.out b hb)).setOut (x := w.heap.size + 1) (i := 6) (fun b hb => NE1.out b hb)).setOut (x := w.heap.size + 1) (i := 7) (fun b hb => NE1.out b hb)).more (Nat.le_refl _) (by simp), (((((((((HB.out.setCell (p := ⟨w.heap.size, 6, none⟩) (by show w.heap.size ≤ w.heap.size; omega) _).setCell (p := ⟨w.heap.size + 1, 0, none⟩) (by show w.heap.size ≤ w.heap.size + 1; omega) _).setCell (p := ⟨w.heap.size + 1, 1, none⟩) (by show w.heap.size ≤ w.heap.size + 1; omega) _).setCell (p := ⟨w.heap.size + 1, 2, none⟩) (by show w.heap.size ≤ w.heap.size + 1; omega) _).setCell (p := ⟨w.heap.size + 1, 3, none⟩) (by show w.heap.size ≤ w.heap.size + 1; omega) _).setCell (p := ⟨w.heap.size + 1, 4, none⟩) (by show w.heap.size ≤ w.heap.size + 1; omega) _).setCell (p := ⟨w.heap.size + 1, 5, none⟩) (by show w.heap.size ≤ w.heap.size + 1; omega) _).setCell (p := ⟨w.heap.size + 1, 6, none⟩) (by show w.heap.size ≤ w.heap.size + 1; omega) _).setCell (p := ⟨w.heap.size + 1, 7, none⟩) (by show w.heap.size ≤ w.heap.size + 1; omega) _), NB.out, hcb, rfl, HIN.out, HP2.out⟩
theorem label_impl (rs : List RuleV) (J : ByteArray) (lo hi : Nat) (r : RuleV) (cs : List Value) (T : ByteArray) (w : World) (hr : allV (kindI rs) rs) (hT : T.size ≤ 1048576) (hsh : Short r) (hlo : lo ≤ w.heap.size) (hhi : hi ≤ w.heap.size) (ht : Tabs w) (h : OwnRule lo hi r cs w) :
  Calls Tryz.prog 137 #[.agg cs.toArray, .string T] w (LabelOut rs J lo cs r T w) := by
 have h' := h
 obtain ⟨a4, c4, a5, c5, a6, c6, a7, c7, rfl, -⟩ := h'
 by_cases h6 : r.kind = 6
 ·exact label_6 rs J lo hi r a4 a5 a6 a7 c4 c5 c6 c7 T w hr hT hsh hlo hhi ht h h6
 ·by_cases h7 : r.kind = 7 ∧ 0 < r.kids.length
  ·exact label_7 rs J lo hi r a4 a5 a6 a7 c4 c5 c6 c7 T w hr hT hsh hlo hhi ht h h7.1 h7.2
  ·exact label_0 rs J lo hi r a4 a5 a6 a7 c4 c5 c6 c7 T w hr hT hsh hlo hhi ht h h6 h7
set_option maxHeartbeats 1000000 in
theorem next_impl (a : Option Addr) (rs : List RuleV) (cap k : Nat) (r : RuleV) (cs : List Value) (w : World) (hr : allV (kindI rs) rs) (hl : rs.length ≤ 1048576) (hk : k < rs.length) (hrd : RdC a rs w) (hx : IsRule r cs w) :
  Calls Tryz.prog 139 #[.agg #[.slice a rs.length cap], .agg cs.toArray, .int .i64 (k : Int)] w fun e w' => e = .returned (.bool true) ∧ Below w.heap.size w w' := by
 obtain ⟨a4, c4, a5, c5, a6, c6, a7, c7, rfl, -⟩ := hx
 obtain ⟨w0, hw0⟩ : ∃ w0, w0 = (w.alloc (.cells #[.slice a rs.length cap] 26)).alloc (.cells #[.string r.name, .int .i64 r.kind, .int .i64 r.size, .bool r.little, .slice a4 r.bytes.length c4, .slice a5 r.names.length c5, .slice a6 r.tags.length c6, .slice a7 r.kids.length c7] 59) := ⟨_, rfl⟩
 have hB0 : Below w.heap.size w w0 := by subst hw0; exact ((Below.refl _ w).alloc (Nat.le_refl _) _).alloc (by simp) _
 have hD : CellsAt w.heap.size [.slice a rs.length cap] w0 := by subst hw0; exact (CellsAt.new w _ _).below ((Below.refl _ _).alloc (Nat.le_refl _) _)
 have k0 : (0 : Int) ≤ (k : Int) := by omega
 have k1 : (k : Int) < (rs.length : Int) := by omega
 obtain ⟨b0, off, cs0, e0, hr0, -, hc0⟩ := (hrd.below hB0) k hk
 have hf := (good_all hr hk).1
 have hki : Hid (kidI rs[k].name rs = (k : Int)) := by
  show _ = _
  unfold kidI
  rw [hf, if_pos k0]
 have hnm : w0.cell? ⟨b0, off + k * 8, none⟩ = some (.string rs[k].name) := by
  obtain ⟨x4, y4, x5, y5, x6, y6, x7, y7, rfl, -⟩ := hr0
  exact hc0 0 _ rfl
 subst e0
 generalize rs[k].name = nm at hki hnm
 have HN : Hid (w0.drew.cell? ⟨b0, off + k * 8, none⟩ = some (.string nm)) := hnm
 have HD := Lib.hid (hD.below (below_drewN (Below.refl w0.heap.size w0) 1))
 have hb : Hid (Below w.heap.size w w0.drew) := below_drewN hB0 1
 have HRD := Lib.hid hrd.rd
 have HW := Lib.hid hw0
 clear hB0 hD hw0 hf hnm hr0 hc0 hrd hr
 go_enter Tryz.func139, Tryz.ntmps139
 go_upto_region 1 with fail
 rw [← HW.out]
 clear HW
 go_region_held3 (fun W => W.cell? ⟨w.heap.size, 0, none⟩ = some (.slice (some ⟨b0, off, none⟩) rs.length cap) ∧ W.cell? ⟨b0, off + k * 8, none⟩ = some (.string nm)) (exact ⟨(HD.out 0 _ rfl).1, HN.out⟩) (first | (go_at_call 157; refine (pkid_impl (some ⟨b0, off, none⟩) rs cap nm _ (by omega) (HRD.out.below hb.out)).mono ?_; rintro e y1 ⟨rfl, hb1⟩; rw [hki.out]; replace HD := Lib.hid (HD.out.below hb1); replace HN := Lib.hid (cell_keep hb1 HN.out); replace hb := Lib.hid (hb.out.trans (hb1.mono hb.out.size)); clear hb1))
 go_wp2
 go_ret
 exact ⟨rfl, hb.out⟩
def zeroR : RuleV := ⟨⟨#[]⟩, 0, 0, false, [], [], [], []⟩
theorem zero_own (lo hi : Nat) (w : World) : OwnRule lo hi zeroR zeroCs w := by
 refine ⟨none, 0, none, 0, none, 0, none, 0, rfl, ⟨.inl rfl, Nat.le_refl _, fun _ => rfl⟩, ⟨.inl rfl, Nat.le_refl _, fun _ => rfl⟩, ⟨.inl rfl, Nat.le_refl _, fun _ => rfl⟩, ⟨.inl rfl, Nat.le_refl _, fun _ => rfl⟩, ?_, ?_⟩ <;> simp [zeroCs, sliceBlk]
def AfterKid (rs : List RuleV) (y : RuleV) (m : Nat) (r : RuleV) (S : ByteArray) : Prop :=
 (S = ⟨#[]⟩ → r = y) ∧ (S ≠ ⟨#[]⟩ → S = ⟨#[32]⟩ ++ restText rs y (m + 1) ∧ m + 1 < y.kids.length ∧ OnPath rs y (m + 1) r (restText rs y (m + 1)))
def ReadOut1 (rs : List RuleV) (J : ByteArray) (lo : Nat) (cs : List Value) (bad : RuleV → Nat → Prop) (w : World) (e : Ending) (w' : World) : Prop :=
 ∃ r' cs' ok, e = .returned (.tuple #[.agg cs'.toArray, .bool ok]) ∧ OwnRule lo w'.heap.size r' cs' w' ∧ Below w.heap.size w w' ∧ (∀ b ∈ cs'.flatMap sliceBlk, b ∈ cs.flatMap sliceBlk ∨ w.heap.size ≤ b) ∧ (ok = true → Acc rs J r') ∧ (ok = false → r' = zeroR ∧ cs' = zeroCs ∧ ∀ y m, Acc rs J y → ¬ bad y m)
structure Ctx (rs : List RuleV) (J : ByteArray) (a : Option Addr) (cap : Nat) : Prop where
 all : allV (kindI rs) rs
 line : J ≠ ⟨#[]⟩
 len : rs.length ≤ 1048575
 room : rs.length ≤ cap
 nils : a = none → cap = 0
 short : ∀ r ∈ rs, Short r
 spelt : ∀ r ∈ rs, Spelt r
theorem Ctx.shorts {rs : List RuleV} {J : ByteArray} {a : Option Addr} {cap : Nat} (c : Ctx rs J a cap) {x : RuleV} (h : Short x) : ∀ r ∈ rs ++ [x], Short r := fun r hr => by
 rcases List.mem_append.1 hr with hr | hr
 ·exact c.short r hr
 ·rw [List.mem_singleton] at hr; rw [hr]; exact h
theorem Ctx.spelts {rs : List RuleV} {J : ByteArray} {a : Option Addr} {cap : Nat} (c : Ctx rs J a cap) {x : RuleV} (h : Spelt x) : ∀ r ∈ rs ++ [x], Spelt r := fun r hr => by
 rcases List.mem_append.1 hr with hr | hr
 ·exact c.spelt r hr
 ·rw [List.mem_singleton] at hr; rw [hr]; exact h
def KidsC (rs : List RuleV) (J : ByteArray) (a : Option Addr) (cap lo n : Nat) : Prop := ∀ (r : RuleV) (cs : List Value) (T : ByteArray) (hi : Nat) (w : World), T.size ≤ n → T.size ≤ 1048576 → Inv (2 * r.kids.length) r → r.kids.length ≤ 8 → lo ≤ w.heap.size → hi ≤ w.heap.size → Tabs w → RdC a rs w → OwnRule lo hi r cs w →
 Calls Tryz.prog 118 #[.agg #[.slice a rs.length cap], .agg cs.toArray, .string T, .string J] w (ReadOut1 rs J lo cs (fun y m => OnPath rs y m r T) w)
def RestC (rs : List RuleV) (J : ByteArray) (a : Option Addr) (cap lo n : Nat) : Prop := ∀ (r : RuleV) (cs : List Value) (S : ByteArray) (hi : Nat) (w : World), S.size ≤ n → S.size ≤ 1048576 → Inv (2 * r.kids.length) r → r.kids.length ≤ 9 → lo ≤ w.heap.size → hi ≤ w.heap.size → Tabs w → RdC a rs w → OwnRule lo hi r cs w →
 Calls Tryz.prog 141 #[.agg #[.slice a rs.length cap], .agg cs.toArray, .string S, .string J] w (ReadOut1 rs J lo cs (fun y m => AfterKid rs y m r S) w)
open Classical in
theorem kids_max {rs : List RuleV} {y : RuleV} (h : kindI rs y = true) (hk : 4 ≤ y.kind ∧ y.kind ≤ 9) : y.kids.length ≤ 9 := by
 obtain ⟨k1, k2, k3, k4⟩ := kindI_kids h
 rcases (by omega : (y.kind = 4 ∨ y.kind = 8 ∨ y.kind = 9) ∨ y.kind = 5 ∨ y.kind = 6 ∨ y.kind = 7) with e | e | e | e
 ·rw [k1 e]; omega
 ·rw [k2 e]; omega
 ·rw [← k3 e]
  simp [kindI, meetsB, e] at h
  have h4 := h.1.2
  unfold namesB at h4
  have := (of_decide_eq_true h4).2.2
  omega
 ·rw [k4 e]
  simp [kindI, meetsB, e] at h
  have h4 := h.1
  unfold tagsB at h4
  rw [Bool.and_eq_true] at h4
  have := (of_decide_eq_true h4.1).2.2
  omega
theorem path_kids {rs : List RuleV} {y r : RuleV} {m : Nat} {T : ByteArray} (hp : OnPath rs y m r T) : r.kids.length = m := by
 obtain ⟨-, hm, e, -⟩ := hp
 rw [e]; show (y.kids.take m).length = m; rw [List.length_take]; omega
theorem after_first {rs : List RuleV} {J S : ByteArray} {y r : RuleV} {m : Nat} (hr : allV (kindI rs) rs) (hy : Acc rs J y) (hp : AfterKid rs y m r S) (hS : 0 < S.size) : S[0] = 32 ∧ r.kids.length ≤ 8 ∧ OnPath rs y (m + 1) r (S.extract 1 S.size) := by
 have hne : S ≠ ⟨#[]⟩ := fun e => by rw [e] at hS; exact absurd hS (by decide)
 obtain ⟨h1, h2, h3⟩ := hp.2 hne
 have h4 := kids_max (hy.good hr).2.2.2 h3.1
 have h5 := path_kids h3
 have el : lst S = 32 :: lst (restText rs y (m + 1)) := by rw [h1, lst_append]; rfl
 have e0 := drop_at S 0 hS
 rw [List.drop_zero, el] at e0
 refine ⟨(List.cons.inj e0).1.symm, by omega, ?_⟩
 have e1 : S.extract 1 S.size = restText rs y (m + 1) := by
  rw [extract_txt, el, List.drop_one, List.tail_cons, List.take_of_length_le, txt_lst]
  have := congrArg List.length el
  simp only [lst_length, List.length_cons] at this
  rw [lst_length]; omega
 rw [e1]; exact h3
set_option maxHeartbeats 2000000 in
theorem rest_none (rs : List RuleV) (J : ByteArray) (a : Option Addr) (cap lo hi : Nat) (r : RuleV) (a4 a5 a6 a7 : Option Addr) (c4 c5 c6 c7 : Nat) (S : ByteArray) (w : World) (cx : Ctx rs J a cap) (_hS : S.size ≤ 1048576) (hin : Inv (2 * r.kids.length) r) (hk9 : r.kids.length ≤ 9) (_hlo : lo ≤ w.heap.size) (hhi : hi ≤ w.heap.size) (ht : Tabs w) (hrd : RdC a rs w) (h : OwnRule lo hi r [.string r.name, .int .i64 r.kind, .int .i64 r.size, .bool r.little, .slice a4 r.bytes.length c4, .slice a5 r.names.length c5, .slice a6 r.tags.length c6, .slice a7 r.kids.length c7] w) (h0 : S = ⟨#[]⟩) :
  Calls Tryz.prog 141 #[.agg #[.slice a rs.length cap], .agg #[.string r.name, .int .i64 r.kind, .int .i64 r.size, .bool r.little, .slice a4 r.bytes.length c4, .slice a5 r.names.length c5, .slice a6 r.tags.length c6, .slice a7 r.kids.length c7], .string S, .string J] w (ReadOut1 rs J lo [.string r.name, .int .i64 r.kind, .int .i64 r.size, .bool r.little, .slice a4 r.bytes.length c4, .slice a5 r.names.length c5, .slice a6 r.tags.length c6, .slice a7 r.kids.length c7] (fun y m => AfterKid rs y m r S) w) := by
 obtain ⟨w0, hw0⟩ : ∃ w0, w0 = ((w.alloc (.cells #[.slice a rs.length cap] 26)).alloc (.cells #[.string r.name, .int .i64 r.kind, .int .i64 r.size, .bool r.little, .slice a4 r.bytes.length c4, .slice a5 r.names.length c5, .slice a6 r.tags.length c6, .slice a7 r.kids.length c7] 59)).alloc (.cells #[.string ⟨#[]⟩, .int .i64 0, .int .i64 0, .bool false, .slice none 0 0, .slice none 0 0, .slice none 0 0, .slice none 0 0] 59) := ⟨_, rfl⟩
 have hB0 : Below w.heap.size w w0 := by subst hw0; exact (((Below.refl _ w).alloc (Nat.le_refl _) _).alloc (by simp) _).alloc (by simp; omega) _
 have hz0 : w0.heap.size = w.heap.size + 3 := by subst hw0; simp
 have hD : CellsAt w.heap.size [.slice a rs.length cap] w0 := by subst hw0; exact ((CellsAt.new w [.slice a rs.length cap] 26).below ((Below.refl _ _).alloc (Nat.le_refl _) _)).below ((Below.refl _ _).alloc (Nat.le_refl _) _)
 have hR : CellsAt (w.heap.size + 1) [.string r.name, .int .i64 r.kind, .int .i64 r.size, .bool r.little, .slice a4 r.bytes.length c4, .slice a5 r.names.length c5, .slice a6 r.tags.length c6, .slice a7 r.kids.length c7] w0 := by
  subst hw0
  have h1 := CellsAt.new (w.alloc (.cells #[.slice a rs.length cap] 26)) [.string r.name, .int .i64 r.kind, .int .i64 r.size, .bool r.little, .slice a4 r.bytes.length c4, .slice a5 r.names.length c5, .slice a6 r.tags.length c6, .slice a7 r.kids.length c7] 59
  simp only [World.size_alloc] at h1
  exact h1.below ((Below.refl _ _).alloc (Nat.le_refl _) _)
 have hZ : CellsAt (w.heap.size + 2) zeroCs w0 := by
  subst hw0
  have h1 := CellsAt.new ((w.alloc (.cells #[.slice a rs.length cap] 26)).alloc (.cells #[.string r.name, .int .i64 r.kind, .int .i64 r.size, .bool r.little, .slice a4 r.bytes.length c4, .slice a5 r.names.length c5, .slice a6 r.tags.length c6, .slice a7 r.kids.length c7] 59)) zeroCs 59
  simpa [zeroCs] using h1
 have HB := Lib.hid hB0
 have HD := Lib.hid hD
 have HR := Lib.hid hR
 have HZ := Lib.hid hZ
 have HW := Lib.hid hw0
 have HO := Lib.hid (h.below hB0)
 have HT := Lib.hid (ht.below hB0)
 have HI := Lib.hid hin
 have HC := Lib.hid cx
 have HRD := Lib.hid (hrd.below hB0)
 have H9 : Hid (∀ b ∈ ([.string r.name, .int .i64 r.kind, .int .i64 r.size, .bool r.little, .slice a4 r.bytes.length c4, .slice a5 r.names.length c5, .slice a6 r.tags.length c6, .slice a7 r.kids.length c7] : List Value).flatMap sliceBlk, lo ≤ b ∧ b < hi) := by
  obtain ⟨_, _, _, _, _, _, _, _, _, _, _, _, _, _, h9⟩ := h
  exact h9
 clear hB0 hD hR hZ hw0 h ht hin cx hrd
 have g0 := str_none h0
 subst h0
 go_enter Tryz.func141, Tryz.ntmps141
 obtain ⟨d0, -⟩ := HD.out 0 _ rfl
 obtain ⟨r0, -⟩ := HR.out 0 _ rfl
 obtain ⟨r1, -⟩ := HR.out 1 _ rfl
 obtain ⟨r2, -⟩ := HR.out 2 _ rfl
 obtain ⟨r3, -⟩ := HR.out 3 _ rfl
 obtain ⟨r4, -⟩ := HR.out 4 _ rfl
 obtain ⟨r5, -⟩ := HR.out 5 _ rfl
 obtain ⟨r6, -⟩ := HR.out 6 _ rfl
 obtain ⟨r7, -⟩ := HR.out 7 _ rfl
 go_upto_region 2 with fail
 rw [← HW.out]
 clear HW
 go_wp2_with fail
 refine (accept_impl a rs cap r [.string r.name, .int .i64 r.kind, .int .i64 r.size, .bool r.little, .slice a4 r.bytes.length c4, .slice a5 r.names.length c5, .slice a6 r.tags.length c6, .slice a7 r.kids.length c7] J _ HC.out.line HC.out.len HC.out.room HC.out.nils (HC.out.shorts (HI.out.short (by omega))) (HC.out.spelts HI.out.spelt) HT.out.pow HRD.out HO.out.is HO.out.cap).mono ?_
 rintro e w1 ⟨hcase, hb1⟩
 replace HZ := Lib.hid (HZ.out.below hb1)
 replace HO := Lib.hid (HO.out.below hb1)
 have hs1 := hb1.size
 replace HB := Lib.hid (HB.out.trans (hb1.mono HB.out.size))
 clear hb1 d0 r0 r1 r2 r3 r4 r5 r6 r7
 obtain ⟨z0, t0⟩ := HZ.out 0 _ rfl
 obtain ⟨z1, t1⟩ := HZ.out 1 _ rfl
 obtain ⟨z2, t2⟩ := HZ.out 2 _ rfl
 obtain ⟨z3, t3⟩ := HZ.out 3 _ rfl
 obtain ⟨z4, t4⟩ := HZ.out 4 _ rfl
 obtain ⟨z5, t5⟩ := HZ.out 5 _ rfl
 obtain ⟨z6, t6⟩ := HZ.out 6 _ rfl
 obtain ⟨z7, t7⟩ := HZ.out 7 _ rfl
 have NE : Hid (∀ b ∈ ([.string r.name, .int .i64 r.kind, .int .i64 r.size, .bool r.little, .slice a4 r.bytes.length c4, .slice a5 r.names.length c5, .slice a6 r.tags.length c6, .slice a7 r.kids.length c7] : List Value).flatMap sliceBlk, b ≠ w.heap.size + 2) := fun b hb => by have := H9.out b hb; omega
 rcases hcase with ⟨rfl, hacc⟩ | ⟨rfl, hacc⟩
 ·have HA := Lib.hid hacc
  clear hacc
  go_wp2
  (try simp only [Exit.inBlock, Exit.then])
  refine bodyPost_ret (v := .tuple #[.agg #[.string r.name, .int .i64 r.kind, .int .i64 r.size, .bool r.little, .slice a4 r.bytes.length c4, .slice a5 r.names.length c5, .slice a6 r.tags.length c6, .slice a7 r.kids.length c7], .bool true]) ?_ rfl ?_
  ·simp [results, Tryz.results141, go_sem, z0, z1, z2, z3, z4, z5, z6, z7]
  ·exact ⟨_, _, _, rfl, (((((((((((HO.out.more (Nat.le_refl _) (show hi ≤ w1.heap.size by omega))).setOut (x := w.heap.size + 2) (i := 0) (fun b hb => NE.out b hb)).setOut (x := w.heap.size + 2) (i := 1) (fun b hb => NE.out b hb)).setOut (x := w.heap.size + 2) (i := 2) (fun b hb => NE.out b hb)).setOut (x := w.heap.size + 2) (i := 3) (fun b hb => NE.out b hb)).setOut (x := w.heap.size + 2) (i := 4) (fun b hb => NE.out b hb)).setOut (x := w.heap.size + 2) (i := 5) (fun b hb => NE.out b hb)).setOut (x := w.heap.size + 2) (i := 6) (fun b hb => NE.out b hb)).setOut (x := w.heap.size + 2) (i := 7) (fun b hb => NE.out b hb))).more (Nat.le_refl _) (by simp), ((((((((HB.out.setCell (p := ⟨w.heap.size + 2, 0, none⟩) (by show w.heap.size ≤ w.heap.size + 2; omega) _).setCell (p := ⟨w.heap.size + 2, 1, none⟩) (by show w.heap.size ≤ w.heap.size + 2; omega) _).setCell (p := ⟨w.heap.size + 2, 2, none⟩) (by show w.heap.size ≤ w.heap.size + 2; omega) _).setCell (p := ⟨w.heap.size + 2, 3, none⟩) (by show w.heap.size ≤ w.heap.size + 2; omega) _).setCell (p := ⟨w.heap.size + 2, 4, none⟩) (by show w.heap.size ≤ w.heap.size + 2; omega) _).setCell (p := ⟨w.heap.size + 2, 5, none⟩) (by show w.heap.size ≤ w.heap.size + 2; omega) _).setCell (p := ⟨w.heap.size + 2, 6, none⟩) (by show w.heap.size ≤ w.heap.size + 2; omega) _).setCell (p := ⟨w.heap.size + 2, 7, none⟩) (by show w.heap.size ≤ w.heap.size + 2; omega) _), fun b hb => .inl hb, fun _ => HA.out, (fun e => by cases e)⟩
 ·have HA := Lib.hid hacc
  clear hacc
  have HQ : Hid (∀ y m, Acc rs J y → ¬ AfterKid rs y m r ⟨#[]⟩) := fun y m hy hp => HA.out (by rw [hp.1 rfl]; exact hy)
  unfold zeroCs
  go_wp2
  (try simp only [Exit.inBlock, Exit.then])
  refine bodyPost_ret (v := .tuple #[.agg #[.string ⟨#[]⟩, .int .i64 0, .int .i64 0, .bool false, .slice none 0 0, .slice none 0 0, .slice none 0 0, .slice none 0 0], .bool false]) ?_ rfl ?_
  ·simp [results, Tryz.results141, go_sem, z0, z1, z2, z3, z4, z5, z6, z7]
  ·exact ⟨_, _, _, rfl, zero_own lo _ _, ((((((((HB.out.setCell (p := ⟨w.heap.size + 2, 0, none⟩) (by show w.heap.size ≤ w.heap.size + 2; omega) _).setCell (p := ⟨w.heap.size + 2, 1, none⟩) (by show w.heap.size ≤ w.heap.size + 2; omega) _).setCell (p := ⟨w.heap.size + 2, 2, none⟩) (by show w.heap.size ≤ w.heap.size + 2; omega) _).setCell (p := ⟨w.heap.size + 2, 3, none⟩) (by show w.heap.size ≤ w.heap.size + 2; omega) _).setCell (p := ⟨w.heap.size + 2, 4, none⟩) (by show w.heap.size ≤ w.heap.size + 2; omega) _).setCell (p := ⟨w.heap.size + 2, 5, none⟩) (by show w.heap.size ≤ w.heap.size + 2; omega) _).setCell (p := ⟨w.heap.size + 2, 6, none⟩) (by show w.heap.size ≤ w.heap.size + 2; omega) _).setCell (p := ⟨w.heap.size + 2, 7, none⟩) (by show w.heap.size ≤ w.heap.size + 2; omega) _), (fun b hb => by simp [sliceBlk] at hb), (fun e => by cases e), fun _ => ⟨rfl, rfl, HQ.out⟩⟩
set_option maxHeartbeats 2000000 in
theorem rest_no (rs : List RuleV) (J : ByteArray) (a : Option Addr) (cap lo hi : Nat) (r : RuleV) (a4 a5 a6 a7 : Option Addr) (c4 c5 c6 c7 : Nat) (S : ByteArray) (w : World) (cx : Ctx rs J a cap) (hS : S.size ≤ 1048576) (hin : Inv (2 * r.kids.length) r) (hk9 : r.kids.length ≤ 9) (_hlo : lo ≤ w.heap.size) (_hhi : hi ≤ w.heap.size) (ht : Tabs w) (hrd : RdC a rs w) (h : OwnRule lo hi r [.string r.name, .int .i64 r.kind, .int .i64 r.size, .bool r.little, .slice a4 r.bytes.length c4, .slice a5 r.names.length c5, .slice a6 r.tags.length c6, .slice a7 r.kids.length c7] w) (h0 : 0 < S.size) (hx : S[0] ≠ 32 ∨ 8 < r.kids.length) :
  Calls Tryz.prog 141 #[.agg #[.slice a rs.length cap], .agg #[.string r.name, .int .i64 r.kind, .int .i64 r.size, .bool r.little, .slice a4 r.bytes.length c4, .slice a5 r.names.length c5, .slice a6 r.tags.length c6, .slice a7 r.kids.length c7], .string S, .string J] w (ReadOut1 rs J lo [.string r.name, .int .i64 r.kind, .int .i64 r.size, .bool r.little, .slice a4 r.bytes.length c4, .slice a5 r.names.length c5, .slice a6 r.tags.length c6, .slice a7 r.kids.length c7] (fun y m => AfterKid rs y m r S) w) := by
 obtain ⟨w0, hw0⟩ : ∃ w0, w0 = ((w.alloc (.cells #[.slice a rs.length cap] 26)).alloc (.cells #[.string r.name, .int .i64 r.kind, .int .i64 r.size, .bool r.little, .slice a4 r.bytes.length c4, .slice a5 r.names.length c5, .slice a6 r.tags.length c6, .slice a7 r.kids.length c7] 59)).alloc (.cells #[.string ⟨#[]⟩, .int .i64 0, .int .i64 0, .bool false, .slice none 0 0, .slice none 0 0, .slice none 0 0, .slice none 0 0] 59) := ⟨_, rfl⟩
 have hB0 : Below w.heap.size w w0 := by subst hw0; exact (((Below.refl _ w).alloc (Nat.le_refl _) _).alloc (by simp) _).alloc (by simp; omega) _
 have hz0 : w0.heap.size = w.heap.size + 3 := by subst hw0; simp
 have hD : CellsAt w.heap.size [.slice a rs.length cap] w0 := by subst hw0; exact ((CellsAt.new w [.slice a rs.length cap] 26).below ((Below.refl _ _).alloc (Nat.le_refl _) _)).below ((Below.refl _ _).alloc (Nat.le_refl _) _)
 have hR : CellsAt (w.heap.size + 1) [.string r.name, .int .i64 r.kind, .int .i64 r.size, .bool r.little, .slice a4 r.bytes.length c4, .slice a5 r.names.length c5, .slice a6 r.tags.length c6, .slice a7 r.kids.length c7] w0 := by
  subst hw0
  have h1 := CellsAt.new (w.alloc (.cells #[.slice a rs.length cap] 26)) [.string r.name, .int .i64 r.kind, .int .i64 r.size, .bool r.little, .slice a4 r.bytes.length c4, .slice a5 r.names.length c5, .slice a6 r.tags.length c6, .slice a7 r.kids.length c7] 59
  simp only [World.size_alloc] at h1
  exact h1.below ((Below.refl _ _).alloc (Nat.le_refl _) _)
 have hZ : CellsAt (w.heap.size + 2) zeroCs w0 := by
  subst hw0
  have h1 := CellsAt.new ((w.alloc (.cells #[.slice a rs.length cap] 26)).alloc (.cells #[.string r.name, .int .i64 r.kind, .int .i64 r.size, .bool r.little, .slice a4 r.bytes.length c4, .slice a5 r.names.length c5, .slice a6 r.tags.length c6, .slice a7 r.kids.length c7] 59)) zeroCs 59
  simpa [zeroCs] using h1
 have HB := Lib.hid hB0
 have HD := Lib.hid hD
 have HR := Lib.hid hR
 have HZ := Lib.hid hZ
 have HW := Lib.hid hw0
 have HO := Lib.hid (h.below hB0)
 have HT := Lib.hid (ht.below hB0)
 have HI := Lib.hid hin
 have HC := Lib.hid cx
 have HRD := Lib.hid (hrd.below hB0)
 have H9 : Hid (∀ b ∈ ([.string r.name, .int .i64 r.kind, .int .i64 r.size, .bool r.little, .slice a4 r.bytes.length c4, .slice a5 r.names.length c5, .slice a6 r.tags.length c6, .slice a7 r.kids.length c7] : List Value).flatMap sliceBlk, lo ≤ b ∧ b < hi) := by
  obtain ⟨_, _, _, _, _, _, _, _, _, _, _, _, _, _, h9⟩ := h
  exact h9
 clear hB0 hD hR hZ hw0 h ht hin cx hrd
 have hne : S ≠ ⟨#[]⟩ := fun e => by rw [e] at h0; exact absurd h0 (by decide)
 have g0 := str_some hne
 have i0 : (0 : Int) < (S.size : Int) := by omega
 have HQ : Hid (∀ y m, Acc rs J y → ¬ AfterKid rs y m r S) := fun y m hy hp => by
  obtain ⟨q1, q2, -⟩ := after_first HC.out.all hy hp h0
  rcases hx with hx | hx
  ·exact hx q1
  ·omega
 have hz : ((S[0].toNat : Int) != 32) = true ∨ ((S[0].toNat : Int) != 32) = false ∧ 8 < r.kids.length := by
  by_cases e : S[0] = 32
  ·rcases hx with hx | hx
   ·exact absurd e hx
   ·exact .inr ⟨by rw [e]; rfl, hx⟩
  ·refine .inl ?_
   have : S[0].toNat ≠ 32 := fun h => e (UInt8.toNat_inj.1 h)
   simp; omega
 clear hne hx
 rcases hz with hz | ⟨hz, hk8⟩
 ·go_enter Tryz.func141, Tryz.ntmps141
  go_wp2
  (try simp only [Exit.inBlock, Exit.then])
  refine bodyPost_ret (v := .tuple #[.agg #[.string ⟨#[]⟩, .int .i64 0, .int .i64 0, .bool false, .slice none 0 0, .slice none 0 0, .slice none 0 0, .slice none 0 0], .bool false]) ?_ rfl ?_
  ·simp [results, Tryz.results141, go_sem]
  ·exact ⟨_, _, _, rfl, zero_own lo _ _, (by rw [← HW.out]; exact HB.out), (fun b hb => by simp [sliceBlk] at hb), (fun e => by cases e), fun _ => ⟨rfl, rfl, HQ.out⟩⟩
 ·have g8 : decide ((8 : Int) < (r.kids.length : Int)) = true := decide_eq_true (by omega)
  have g8n : decide (8 < r.kids.length) = true := decide_eq_true hk8
  go_enter Tryz.func141, Tryz.ntmps141
  go_wp2
  (try simp only [Exit.inBlock, Exit.then])
  refine bodyPost_ret (v := .tuple #[.agg #[.string ⟨#[]⟩, .int .i64 0, .int .i64 0, .bool false, .slice none 0 0, .slice none 0 0, .slice none 0 0, .slice none 0 0], .bool false]) ?_ rfl ?_
  ·simp [results, Tryz.results141, go_sem]
  ·exact ⟨_, _, _, rfl, zero_own lo _ _, (by rw [← HW.out]; exact HB.out), (fun b hb => by simp [sliceBlk] at hb), (fun e => by cases e), fun _ => ⟨rfl, rfl, HQ.out⟩⟩
set_option maxHeartbeats 2000000 in
theorem rest_more (rs : List RuleV) (J : ByteArray) (a : Option Addr) (cap lo hi : Nat) (r : RuleV) (a4 a5 a6 a7 : Option Addr) (c4 c5 c6 c7 : Nat) (S : ByteArray) (w : World) (cx : Ctx rs J a cap) (hS : S.size ≤ 1048576) (hin : Inv (2 * r.kids.length) r) (hk9 : r.kids.length ≤ 9) (hlo : lo ≤ w.heap.size) (hhi : hi ≤ w.heap.size) (ht : Tabs w) (hrd : RdC a rs w) (h : OwnRule lo hi r [.string r.name, .int .i64 r.kind, .int .i64 r.size, .bool r.little, .slice a4 r.bytes.length c4, .slice a5 r.names.length c5, .slice a6 r.tags.length c6, .slice a7 r.kids.length c7] w) (h0 : 0 < S.size) (hx : S[0] = 32) (hk8 : r.kids.length ≤ 8) (hK : KidsC rs J a cap lo (S.size - 1)) :
  Calls Tryz.prog 141 #[.agg #[.slice a rs.length cap], .agg #[.string r.name, .int .i64 r.kind, .int .i64 r.size, .bool r.little, .slice a4 r.bytes.length c4, .slice a5 r.names.length c5, .slice a6 r.tags.length c6, .slice a7 r.kids.length c7], .string S, .string J] w (ReadOut1 rs J lo [.string r.name, .int .i64 r.kind, .int .i64 r.size, .bool r.little, .slice a4 r.bytes.length c4, .slice a5 r.names.length c5, .slice a6 r.tags.length c6, .slice a7 r.kids.length c7] (fun y m => AfterKid rs y m r S) w) := by
 obtain ⟨w0, hw0⟩ : ∃ w0, w0 = ((w.alloc (.cells #[.slice a rs.length cap] 26)).alloc (.cells #[.string r.name, .int .i64 r.kind, .int .i64 r.size, .bool r.little, .slice a4 r.bytes.length c4, .slice a5 r.names.length c5, .slice a6 r.tags.length c6, .slice a7 r.kids.length c7] 59)).alloc (.cells #[.string ⟨#[]⟩, .int .i64 0, .int .i64 0, .bool false, .slice none 0 0, .slice none 0 0, .slice none 0 0, .slice none 0 0] 59) := ⟨_, rfl⟩
 have hB0 : Below w.heap.size w w0 := by subst hw0; exact (((Below.refl _ w).alloc (Nat.le_refl _) _).alloc (by simp) _).alloc (by simp; omega) _
 have hz0 : w0.heap.size = w.heap.size + 3 := by subst hw0; simp
 have hD : CellsAt w.heap.size [.slice a rs.length cap] w0 := by subst hw0; exact ((CellsAt.new w [.slice a rs.length cap] 26).below ((Below.refl _ _).alloc (Nat.le_refl _) _)).below ((Below.refl _ _).alloc (Nat.le_refl _) _)
 have hR : CellsAt (w.heap.size + 1) [.string r.name, .int .i64 r.kind, .int .i64 r.size, .bool r.little, .slice a4 r.bytes.length c4, .slice a5 r.names.length c5, .slice a6 r.tags.length c6, .slice a7 r.kids.length c7] w0 := by
  subst hw0
  have h1 := CellsAt.new (w.alloc (.cells #[.slice a rs.length cap] 26)) [.string r.name, .int .i64 r.kind, .int .i64 r.size, .bool r.little, .slice a4 r.bytes.length c4, .slice a5 r.names.length c5, .slice a6 r.tags.length c6, .slice a7 r.kids.length c7] 59
  simp only [World.size_alloc] at h1
  exact h1.below ((Below.refl _ _).alloc (Nat.le_refl _) _)
 have hZ : CellsAt (w.heap.size + 2) zeroCs w0 := by
  subst hw0
  have h1 := CellsAt.new ((w.alloc (.cells #[.slice a rs.length cap] 26)).alloc (.cells #[.string r.name, .int .i64 r.kind, .int .i64 r.size, .bool r.little, .slice a4 r.bytes.length c4, .slice a5 r.names.length c5, .slice a6 r.tags.length c6, .slice a7 r.kids.length c7] 59)) zeroCs 59
  simpa [zeroCs] using h1
 have HB := Lib.hid hB0
 have HD := Lib.hid hD
 have HR := Lib.hid hR
 have HZ := Lib.hid hZ
 have HW := Lib.hid hw0
 have HO := Lib.hid (h.below hB0)
 have HT := Lib.hid (ht.below hB0)
 have HI := Lib.hid hin
 have HC := Lib.hid cx
 have HRD := Lib.hid (hrd.below hB0)
 have H9 : Hid (∀ b ∈ ([.string r.name, .int .i64 r.kind, .int .i64 r.size, .bool r.little, .slice a4 r.bytes.length c4, .slice a5 r.names.length c5, .slice a6 r.tags.length c6, .slice a7 r.kids.length c7] : List Value).flatMap sliceBlk, lo ≤ b ∧ b < hi) := by
  obtain ⟨_, _, _, _, _, _, _, _, _, _, _, _, _, _, h9⟩ := h
  exact h9
 clear hB0 hD hR hZ hw0 h ht hin cx hrd
 have hne : S ≠ ⟨#[]⟩ := fun e => by rw [e] at h0; exact absurd h0 (by decide)
 have g0 := str_some hne
 have i0 : (0 : Int) < (S.size : Int) := by omega
 have i1 : (1 : Int) ≤ (S.size : Int) := by omega
 have HQ : Hid (∀ y m, Acc rs J y → AfterKid rs y m r S → OnPath rs y (m + 1) r (S.extract 1 S.size)) := fun y m hy hp => (after_first HC.out.all hy hp h0).2.2
 have hz : ((S[0].toNat : Int) != 32) = false := by rw [hx]; rfl
 have g8 : decide ((8 : Int) < (r.kids.length : Int)) = false := decide_eq_false (by omega)
 have g8n : decide (8 < r.kids.length) = false := decide_eq_false (by omega)
 have he : (S.extract 1 S.size).size = S.size - 1 := by rw [ByteArray.size_extract]; omega
 have HK := Lib.hid hK
 clear hne hx hK
 go_enter Tryz.func141, Tryz.ntmps141
 have r7 := (HR.out 7 _ rfl).1
 rw [HW.out] at r7
 go_upto_region 5 with fail
 rw [← HW.out] at r7 ⊢
 clear HW r7
 obtain ⟨d0, -⟩ := HD.out 0 _ rfl
 obtain ⟨r0, -⟩ := HR.out 0 _ rfl
 obtain ⟨r1, -⟩ := HR.out 1 _ rfl
 obtain ⟨r2, -⟩ := HR.out 2 _ rfl
 obtain ⟨r3, -⟩ := HR.out 3 _ rfl
 obtain ⟨r4, -⟩ := HR.out 4 _ rfl
 obtain ⟨r5, -⟩ := HR.out 5 _ rfl
 obtain ⟨r6, -⟩ := HR.out 6 _ rfl
 obtain ⟨r7, -⟩ := HR.out 7 _ rfl
 have hbd : Below w0.heap.size w0 w0.drew := below_drewN (Below.refl _ _) 1
 replace HZ := Lib.hid (HZ.out.below hbd)
 replace HB := Lib.hid (HB.out.trans (hbd.mono HB.out.size))
 replace HO := Lib.hid (HO.out.below hbd)
 replace HT := Lib.hid (HT.out.below hbd)
 replace HRD := Lib.hid (HRD.out.below hbd)
 obtain ⟨E, hE⟩ : ∃ E, E = S.extract 1 S.size := ⟨_, rfl⟩
 rw [← hE] at he HQ
 have HE := Lib.hid hE
 have hsl : ∀ W : World, (Instr.slice 9 (.string S) (some (.int .i64 1)) none none).run Tryz.prog W = .ok (.string E) W := fun W => by
  rw [run_slice_string_l _ _ _ Tryz.underlying9 _ _ (by omega) (by omega), hE]
  rfl
 clear hbd hE
 go_region_law (first | (go_simp; go_at_call 118; refine (HK.out r _ E hi w0.drew (by omega) (by omega) HI.out hk8 (show lo ≤ w0.heap.size by omega) (show hi ≤ w0.heap.size by omega) HT.out HRD.out HO.out).mono ?_; rintro e w5 ⟨r', cs', ok, rfl, ho5, hb5, hbl5, hy5, hn5⟩; obtain ⟨x4, y4, x5, y5, x6, y6, x7, y7, rfl, -⟩ := id ho5; replace HZ := Lib.hid (HZ.out.below hb5); have HO5 := Lib.hid ho5; have HBL := Lib.hid hbl5; have HY5 := Lib.hid hy5; have HN5 := Lib.hid hn5; replace HB := Lib.hid (HB.out.trans (hb5.mono HB.out.size)); obtain ⟨z0, t0⟩ := HZ.out 0 _ rfl; obtain ⟨z1, t1⟩ := HZ.out 1 _ rfl; obtain ⟨z2, t2⟩ := HZ.out 2 _ rfl; obtain ⟨z3, t3⟩ := HZ.out 3 _ rfl; obtain ⟨z4, t4⟩ := HZ.out 4 _ rfl; obtain ⟨z5, t5⟩ := HZ.out 5 _ rfl; obtain ⟨z6, t6⟩ := HZ.out 6 _ rfl; obtain ⟨z7, t7⟩ := HZ.out 7 _ rfl; clear ho5 hb5 hbl5 hy5 hn5))
 all_goals (have NE : Hid (∀ b ∈ ([.string r'.name, .int .i64 r'.kind, .int .i64 r'.size, .bool r'.little, .slice x4 r'.bytes.length y4, .slice x5 r'.names.length y5, .slice x6 r'.tags.length y6, .slice x7 r'.kids.length y7] : List Value).flatMap sliceBlk, b ≠ w.heap.size + 2) := fun b hb => by have h2 : w0.drew.heap.size = w0.heap.size := rfl; rcases HBL.out b hb with q | q; (have := H9.out b q; omega); omega)
 all_goals (have NB : Hid (∀ b ∈ ([.string r'.name, .int .i64 r'.kind, .int .i64 r'.size, .bool r'.little, .slice x4 r'.bytes.length y4, .slice x5 r'.names.length y5, .slice x6 r'.tags.length y6, .slice x7 r'.kids.length y7] : List Value).flatMap sliceBlk, b ∈ ([.string r.name, .int .i64 r.kind, .int .i64 r.size, .bool r.little, .slice a4 r.bytes.length c4, .slice a5 r.names.length c5, .slice a6 r.tags.length c6, .slice a7 r.kids.length c7] : List Value).flatMap sliceBlk ∨ w.heap.size ≤ b) := fun b hb => by have h2 : w0.drew.heap.size = w0.heap.size := rfl; rcases HBL.out b hb with q | q; exact .inl q; exact .inr (by omega))
 all_goals (have HNO : Hid (ok = false → r' = zeroR ∧ ([.string r'.name, .int .i64 r'.kind, .int .i64 r'.size, .bool r'.little, .slice x4 r'.bytes.length y4, .slice x5 r'.names.length y5, .slice x6 r'.tags.length y6, .slice x7 r'.kids.length y7] : List Value) = zeroCs ∧ ∀ y m, Acc rs J y → ¬ AfterKid rs y m r S) := fun e => by obtain ⟨q1, q2, q3⟩ := HN5.out e; exact ⟨q1, q2, fun y m hy hp => q3 y (m + 1) hy (HQ.out y m hy hp)⟩)
 all_goals clear HBL HN5 HQ
 all_goals
  go_wp2
  (try simp only [Exit.inBlock, Exit.then])
  refine bodyPost_ret (v := .tuple #[.agg #[.string r'.name, .int .i64 r'.kind, .int .i64 r'.size, .bool r'.little, .slice x4 r'.bytes.length y4, .slice x5 r'.names.length y5, .slice x6 r'.tags.length y6, .slice x7 r'.kids.length y7], .bool ok]) ?_ rfl ?_
  ·simp [results, Tryz.results141, go_sem, z0, z1, z2, z3, z4, z5, z6, z7]
  ·exact ⟨_, _, _, rfl, (((((((((HO5.out.setOut (x := w.heap.size + 2) (i := 0) (fun b hb => NE.out b hb)).setOut (x := w.heap.size + 2) (i := 1) (fun b hb => NE.out b hb)).setOut (x := w.heap.size + 2) (i := 2) (fun b hb => NE.out b hb)).setOut (x := w.heap.size + 2) (i := 3) (fun b hb => NE.out b hb)).setOut (x := w.heap.size + 2) (i := 4) (fun b hb => NE.out b hb)).setOut (x := w.heap.size + 2) (i := 5) (fun b hb => NE.out b hb)).setOut (x := w.heap.size + 2) (i := 6) (fun b hb => NE.out b hb)).setOut (x := w.heap.size + 2) (i := 7) (fun b hb => NE.out b hb))).more (Nat.le_refl _) (by simp), ((((((((HB.out.setCell (p := ⟨w.heap.size + 2, 0, none⟩) (by show w.heap.size ≤ w.heap.size + 2; omega) _).setCell (p := ⟨w.heap.size + 2, 1, none⟩) (by show w.heap.size ≤ w.heap.size + 2; omega) _).setCell (p := ⟨w.heap.size + 2, 2, none⟩) (by show w.heap.size ≤ w.heap.size + 2; omega) _).setCell (p := ⟨w.heap.size + 2, 3, none⟩) (by show w.heap.size ≤ w.heap.size + 2; omega) _).setCell (p := ⟨w.heap.size + 2, 4, none⟩) (by show w.heap.size ≤ w.heap.size + 2; omega) _).setCell (p := ⟨w.heap.size + 2, 5, none⟩) (by show w.heap.size ≤ w.heap.size + 2; omega) _).setCell (p := ⟨w.heap.size + 2, 6, none⟩) (by show w.heap.size ≤ w.heap.size + 2; omega) _).setCell (p := ⟨w.heap.size + 2, 7, none⟩) (by show w.heap.size ≤ w.heap.size + 2; omega) _), NB.out, HY5.out, HNO.out⟩
theorem rest_of {rs : List RuleV} {J : ByteArray} {a : Option Addr} {cap lo n : Nat} (cx : Ctx rs J a cap) (hK : ∀ m, m < n → KidsC rs J a cap lo m) : RestC rs J a cap lo n := fun r cs S hi w hn hS hin hk hlo hhi ht hrd h => by
 have h' := h
 obtain ⟨a4, c4, a5, c5, a6, c6, a7, c7, rfl, -⟩ := h'
 by_cases h0 : S = ⟨#[]⟩
 ·exact rest_none rs J a cap lo hi r a4 a5 a6 a7 c4 c5 c6 c7 S w cx hS hin hk hlo hhi ht hrd h h0
 ·have hp := size_pos h0
  by_cases hx : S[0] = 32 ∧ r.kids.length ≤ 8
  ·exact rest_more rs J a cap lo hi r a4 a5 a6 a7 c4 c5 c6 c7 S w cx hS hin hk hlo hhi ht hrd h hp hx.1 hx.2 (hK (S.size - 1) (by omega))
  ·refine rest_no rs J a cap lo hi r a4 a5 a6 a7 c4 c5 c6 c7 S w cx hS hin hk hlo hhi ht hrd h hp ?_
   by_cases e : S[0] = 32
   ·rcases Nat.lt_or_ge 8 r.kids.length with q | q
    ·exact .inr q
    ·exact absurd ⟨e, q⟩ hx
   ·exact .inl e
def NotYet (rs : List RuleV) (J : ByteArray) (r : RuleV) (T : ByteArray) (k : Nat) : Prop := ∀ y m, Acc rs J y → ∀ h : AtKid rs y m r T, (k : Int) ≤ y.kids[m]'h.2.1
theorem prefix_app (x y : ByteArray) : Lib.hasPrefix (x ++ y).data.toList x.data.toList = true ∧ Lib.trimPrefix (x ++ y).data.toList x.data.toList = lst y := by
 have e : (x ++ y).data.toList = x.data.toList ++ lst y := lst_append x y
 have h1 : Lib.hasPrefix (x ++ y).data.toList x.data.toList = true := by
  rw [e]; unfold Lib.hasPrefix
  rw [List.isPrefixOf_iff_prefix]; exact List.prefix_append _ _
 refine ⟨h1, ?_⟩
 unfold Lib.trimPrefix
 rw [h1, if_pos rfl, e]
 exact List.drop_left
theorem trim_le (s x : List UInt8) : (Lib.trimPrefix s x).length ≤ s.length := by
 unfold Lib.trimPrefix
 split
 ·rw [List.length_drop]; omega
 ·exact Nat.le_refl _
theorem notyet_skip {rs : List RuleV} {J T : ByteArray} {r : RuleV} {k : Nat} (hr : allV (kindI rs) rs) (hk : k < rs.length) (h : NotYet rs J r T k) (hp : Lib.hasPrefix T.data.toList rs[k].name.data.toList = false) : NotYet rs J r T (k + 1) := fun y m hy ha => by
 have h1 := h y m hy ha
 obtain ⟨q, hq, e1, e2, -⟩ := path_kid hr hy ha
 rcases Int.lt_or_eq_of_le h1 with h2 | h2
 ·omega
 ·have : q = k := by omega
  subst this
  rw [e2, (prefix_app rs[q].name (tailText rs y m)).1] at hp
  cases hp
theorem notyet_next {rs : List RuleV} {J T : ByteArray} {r : RuleV} {k : Nat} (hr : allV (kindI rs) rs) (hk : k < rs.length) (h : NotYet rs J r T k) (hn : ∀ y m, Acc rs J y → ¬ AfterKid rs y m { r with kids := r.kids ++ [(k : Int)] } ⟨(Lib.trimPrefix T.data.toList rs[k].name.data.toList).toArray⟩) : NotYet rs J r T (k + 1) := fun y m hy ha => by
 have h1 := h y m hy ha
 obtain ⟨q, hq, e1, e2, -, e4, e5⟩ := path_kid hr hy ha
 rcases Int.lt_or_eq_of_le h1 with h2 | h2
 ·omega
 ·have : q = k := by omega
  subst this
  refine absurd ?_ (hn y m hy)
  have e6 : (⟨(Lib.trimPrefix T.data.toList rs[q].name.data.toList).toArray⟩ : ByteArray) = tailText rs y m := by
   rw [e2, (prefix_app rs[q].name (tailText rs y m)).2]
   exact txt_lst _
  rw [e6]
  exact ⟨e4, e5⟩
theorem notyet_end {rs : List RuleV} {J T : ByteArray} {r : RuleV} (hr : allV (kindI rs) rs) (h : NotYet rs J r T rs.length) : ∀ y m, Acc rs J y → ¬ AtKid rs y m r T := fun y m hy ha => by
 have h1 := h y m hy ha
 obtain ⟨q, hq, e1, -⟩ := path_kid hr hy ha
 omega
set_option maxHeartbeats 8000000 in
theorem kids_walk (rs : List RuleV) (J : ByteArray) (a : Option Addr) (cap lo hi : Nat) (r : RuleV) (a4 a5 a6 a7 : Option Addr) (c4 c5 c6 c7 : Nat) (T : ByteArray) (w : World) (cx : Ctx rs J a cap) (hT : T.size ≤ 1048576) (hin : Inv (2 * r.kids.length) r) (hk8 : r.kids.length ≤ 8) (hlo : lo ≤ w.heap.size) (hhi : hi ≤ w.heap.size) (ht : Tabs w) (hrd : RdC a rs w) (h : OwnRule lo hi r [.string r.name, .int .i64 r.kind, .int .i64 r.size, .bool r.little, .slice a4 r.bytes.length c4, .slice a5 r.names.length c5, .slice a6 r.tags.length c6, .slice a7 r.kids.length c7] w) (hQ : RestC rs J a cap lo T.size) :
  Calls Tryz.prog 118 #[.agg #[.slice a rs.length cap], .agg #[.string r.name, .int .i64 r.kind, .int .i64 r.size, .bool r.little, .slice a4 r.bytes.length c4, .slice a5 r.names.length c5, .slice a6 r.tags.length c6, .slice a7 r.kids.length c7], .string T, .string J] w (ReadOut1 rs J lo [.string r.name, .int .i64 r.kind, .int .i64 r.size, .bool r.little, .slice a4 r.bytes.length c4, .slice a5 r.names.length c5, .slice a6 r.tags.length c6, .slice a7 r.kids.length c7] (fun y m => OnPath rs y m r T) w) := by
 obtain ⟨w0, hw0⟩ : ∃ w0, w0 = ((w.alloc (.cells #[.slice a rs.length cap] 26)).alloc (.cells #[.string r.name, .int .i64 r.kind, .int .i64 r.size, .bool r.little, .slice a4 r.bytes.length c4, .slice a5 r.names.length c5, .slice a6 r.tags.length c6, .slice a7 r.kids.length c7] 59)).alloc (.cells #[.string ⟨#[]⟩, .int .i64 0, .int .i64 0, .bool false, .slice none 0 0, .slice none 0 0, .slice none 0 0, .slice none 0 0] 59) := ⟨_, rfl⟩
 have hB0 : Below w.heap.size w w0 := by subst hw0; exact (((Below.refl _ w).alloc (Nat.le_refl _) _).alloc (by simp) _).alloc (by simp; omega) _
 have hz0 : w0.heap.size = w.heap.size + 3 := by subst hw0; simp
 have hD : CellsAt w.heap.size [.slice a rs.length cap] w0 := by subst hw0; exact ((CellsAt.new w [.slice a rs.length cap] 26).below ((Below.refl _ _).alloc (Nat.le_refl _) _)).below ((Below.refl _ _).alloc (Nat.le_refl _) _)
 have hR : CellsAt (w.heap.size + 1) [.string r.name, .int .i64 r.kind, .int .i64 r.size, .bool r.little, .slice a4 r.bytes.length c4, .slice a5 r.names.length c5, .slice a6 r.tags.length c6, .slice a7 r.kids.length c7] w0 := by
  subst hw0
  have h1 := CellsAt.new (w.alloc (.cells #[.slice a rs.length cap] 26)) [.string r.name, .int .i64 r.kind, .int .i64 r.size, .bool r.little, .slice a4 r.bytes.length c4, .slice a5 r.names.length c5, .slice a6 r.tags.length c6, .slice a7 r.kids.length c7] 59
  simp only [World.size_alloc] at h1
  exact h1.below ((Below.refl _ _).alloc (Nat.le_refl _) _)
 have hZ : CellsAt (w.heap.size + 2) zeroCs w0 := by
  subst hw0
  have h1 := CellsAt.new ((w.alloc (.cells #[.slice a rs.length cap] 26)).alloc (.cells #[.string r.name, .int .i64 r.kind, .int .i64 r.size, .bool r.little, .slice a4 r.bytes.length c4, .slice a5 r.names.length c5, .slice a6 r.tags.length c6, .slice a7 r.kids.length c7] 59)) zeroCs 59
  simpa [zeroCs] using h1
 have HB := Lib.hid hB0
 have HD := Lib.hid hD
 have HR := Lib.hid hR
 have HZ := Lib.hid hZ
 have HW := Lib.hid hw0
 have HO := Lib.hid (h.below hB0)
 have HT := Lib.hid (ht.below hB0)
 have HI := Lib.hid hin
 have HC := Lib.hid cx
 have HRD := Lib.hid (hrd.below hB0)
 have HQ := Lib.hid hQ
 have HRDW := Lib.hid hrd
 have HTW := Lib.hid ht
 have H9 : Hid (∀ b ∈ ([.string r.name, .int .i64 r.kind, .int .i64 r.size, .bool r.little, .slice a4 r.bytes.length c4, .slice a5 r.names.length c5, .slice a6 r.tags.length c6, .slice a7 r.kids.length c7] : List Value).flatMap sliceBlk, lo ≤ b ∧ b < hi) := by
  obtain ⟨_, _, _, _, _, _, _, _, _, _, _, _, _, _, h9⟩ := h
  exact h9
 clear hB0 hD hR hZ hw0 h ht hin cx hrd hQ
 go_enter Tryz.func118, Tryz.ntmps118
 go_wp2_with fail
 rw [← HW.out]
 clear HW
 refine (label_impl rs J lo hi r _ T _ HC.out.all hT (HI.out.short (by omega)) (by omega) (by omega) HT.out HO.out).mono ?_
 rintro e w1 ⟨p, pcs, T1, rfl, hop, hb1, hbl1, hT1, hpk, hinp, hpath⟩
 obtain ⟨x4, j4, x5, j5, x6, j6, x7, j7, rfl, -⟩ := id hop
 have HINP := Lib.hid (hinp (2 * r.kids.length) (by omega) HI.out)
 have HPATH := Lib.hid hpath
 have HPK := Lib.hid hpk
 have hpk8 : p.kids.length ≤ 8 := by rw [hpk]; exact hk8
 have hln := HC.out.len
 obtain ⟨u0, hu0⟩ : ∃ u0, u0 = ((((((((w1.setCell ⟨w.heap.size + 1, 0, none⟩ (.string p.name)).setCell ⟨w.heap.size + 1, 1, none⟩ (.int .i64 p.kind)).setCell ⟨w.heap.size + 1, 2, none⟩ (.int .i64 p.size)).setCell ⟨w.heap.size + 1, 3, none⟩ (.bool p.little)).setCell ⟨w.heap.size + 1, 4, none⟩ (.slice x4 p.bytes.length j4)).setCell ⟨w.heap.size + 1, 5, none⟩ (.slice x5 p.names.length j5)).setCell ⟨w.heap.size + 1, 6, none⟩ (.slice x6 p.tags.length j6)).setCell ⟨w.heap.size + 1, 7, none⟩ (.slice x7 p.kids.length j7)) := ⟨_, rfl⟩
 have hus : u0.heap.size = w1.heap.size := by subst hu0; simp
 have hs1 := hb1.size
 have hD1 : CellsAt w.heap.size [.slice a rs.length cap] u0 := by subst hu0; exact (((((((((HD.out.below hb1).far (by omega)).far (by omega)).far (by omega)).far (by omega)).far (by omega)).far (by omega)).far (by omega)).far (by omega))
 have hZ1 : CellsAt (w.heap.size + 2) zeroCs u0 := by subst hu0; exact (((((((((HZ.out.below hb1).far (by omega)).far (by omega)).far (by omega)).far (by omega)).far (by omega)).far (by omega)).far (by omega)).far (by omega))
 have hR1 : CellsAt (w.heap.size + 1) [.string p.name, .int .i64 p.kind, .int .i64 p.size, .bool p.little, .slice x4 p.bytes.length j4, .slice x5 p.names.length j5, .slice x6 p.tags.length j6, .slice x7 p.kids.length j7] u0 := by subst hu0; have q := (((((((((HR.out.below hb1).set 0 (.string p.name) (by simp)).set 1 (.int .i64 p.kind) (by simp)).set 2 (.int .i64 p.size) (by simp)).set 3 (.bool p.little) (by simp)).set 4 (.slice x4 p.bytes.length j4) (by simp)).set 5 (.slice x5 p.names.length j5) (by simp)).set 6 (.slice x6 p.tags.length j6) (by simp)).set 7 (.slice x7 p.kids.length j7) (by simp)); simp only [List.set] at q; exact q
 have NE0 : ∀ b ∈ ([.string p.name, .int .i64 p.kind, .int .i64 p.size, .bool p.little, .slice x4 p.bytes.length j4, .slice x5 p.names.length j5, .slice x6 p.tags.length j6, .slice x7 p.kids.length j7] : List Value).flatMap sliceBlk, b ≠ w.heap.size ∧ b ≠ w.heap.size + 1 ∧ b ≠ w.heap.size + 2 ∧ b < w1.heap.size := fun b hb => by
  obtain ⟨_, _, _, _, _, _, _, _, _, _, _, _, _, _, h9⟩ := hop
  have h8 := h9 b hb
  rcases hbl1 b hb with q | q
  ·have := H9.out b q; omega
  ·omega
 have hO1 : OwnRule lo u0.heap.size p [.string p.name, .int .i64 p.kind, .int .i64 p.size, .bool p.little, .slice x4 p.bytes.length j4, .slice x5 p.names.length j5, .slice x6 p.tags.length j6, .slice x7 p.kids.length j7] u0 := by rw [hus]; subst hu0; exact ((((((((hop.setOut (x := w.heap.size + 1) (i := 0) (fun b hb => (NE0 b hb).2.1)).setOut (x := w.heap.size + 1) (i := 1) (fun b hb => (NE0 b hb).2.1)).setOut (x := w.heap.size + 1) (i := 2) (fun b hb => (NE0 b hb).2.1)).setOut (x := w.heap.size + 1) (i := 3) (fun b hb => (NE0 b hb).2.1)).setOut (x := w.heap.size + 1) (i := 4) (fun b hb => (NE0 b hb).2.1)).setOut (x := w.heap.size + 1) (i := 5) (fun b hb => (NE0 b hb).2.1)).setOut (x := w.heap.size + 1) (i := 6) (fun b hb => (NE0 b hb).2.1)).setOut (x := w.heap.size + 1) (i := 7) (fun b hb => (NE0 b hb).2.1))
 have hBu : Below w.heap.size w u0 := by subst hu0; exact (((((((((HB.out.trans (hb1.mono HB.out.size)).setCell (p := ⟨w.heap.size + 1, 0, none⟩) (by show w.heap.size ≤ w.heap.size + 1; omega) _).setCell (p := ⟨w.heap.size + 1, 1, none⟩) (by show w.heap.size ≤ w.heap.size + 1; omega) _).setCell (p := ⟨w.heap.size + 1, 2, none⟩) (by show w.heap.size ≤ w.heap.size + 1; omega) _).setCell (p := ⟨w.heap.size + 1, 3, none⟩) (by show w.heap.size ≤ w.heap.size + 1; omega) _).setCell (p := ⟨w.heap.size + 1, 4, none⟩) (by show w.heap.size ≤ w.heap.size + 1; omega) _).setCell (p := ⟨w.heap.size + 1, 5, none⟩) (by show w.heap.size ≤ w.heap.size + 1; omega) _).setCell (p := ⟨w.heap.size + 1, 6, none⟩) (by show w.heap.size ≤ w.heap.size + 1; omega) _).setCell (p := ⟨w.heap.size + 1, 7, none⟩) (by show w.heap.size ≤ w.heap.size + 1; omega) _)
 have HD1 := Lib.hid hD1
 have HR1 := Lib.hid hR1
 have HZ1 := Lib.hid hZ1
 have HO1 := Lib.hid hO1
 have HBU := Lib.hid hBu
 have NE := Lib.hid NE0
 have HU := Lib.hid hu0
 have HBL : Hid (∀ b ∈ ([.string p.name, .int .i64 p.kind, .int .i64 p.size, .bool p.little, .slice x4 p.bytes.length j4, .slice x5 p.names.length j5, .slice x6 p.tags.length j6, .slice x7 p.kids.length j7] : List Value).flatMap sliceBlk, b ∈ ([.string r.name, .int .i64 r.kind, .int .i64 r.size, .bool r.little, .slice a4 r.bytes.length c4, .slice a5 r.names.length c5, .slice a6 r.tags.length c6, .slice a7 r.kids.length c7] : List Value).flatMap sliceBlk ∨ w.heap.size ≤ b) := fun b hb => by
  rcases hbl1 b hb with q | q
  ·exact .inl q
  ·exact .inr (by omega)
 obtain ⟨q0, -⟩ := HR.out.below hb1 0 _ rfl
 obtain ⟨q1, -⟩ := HR.out.below hb1 1 _ rfl
 obtain ⟨q2, -⟩ := HR.out.below hb1 2 _ rfl
 obtain ⟨q3, -⟩ := HR.out.below hb1 3 _ rfl
 obtain ⟨q4, -⟩ := HR.out.below hb1 4 _ rfl
 obtain ⟨q5, -⟩ := HR.out.below hb1 5 _ rfl
 obtain ⟨q6, -⟩ := HR.out.below hb1 6 _ rfl
 obtain ⟨q7, -⟩ := HR.out.below hb1 7 _ rfl
 have f0 := (HR.out.below hb1 0 _ rfl).2
 have f1 := (HR.out.below hb1 1 _ rfl).2
 have f2 := (HR.out.below hb1 2 _ rfl).2
 have f3 := (HR.out.below hb1 3 _ rfl).2
 have f4 := (HR.out.below hb1 4 _ rfl).2
 have f5 := (HR.out.below hb1 5 _ rfl).2
 have f6 := (HR.out.below hb1 6 _ rfl).2
 have f7 := (HR.out.below hb1 7 _ rfl).2
 have d0 := (HD.out.below hb1 0 _ rfl).1
 clear hop hb1 hbl1 hinp hpath hpk hu0 hD1 hZ1 hR1 hO1 hBu NE0 HB HD HR HZ HO HT HRD
 go_wp2
 rw [← HU.out]
 clear HU q0 q1 q2 q3 q4 q5 q6 q7 f0 f1 f2 f3 f4 f5 f6 f7 d0
 go_loopw [25] (fun v W => ∃ k : Nat, k ≤ rs.length ∧ v = .int .i64 k ∧ Hid (Below u0.heap.size u0 W) ∧ Hid (NotYet rs J p T1 k)) (fun v _ => rs.length - (intOf v).toNat)
 case atStart => exact ⟨0, Nat.zero_le _, rfl, Below.refl _ _, fun y m hy ha => by
   obtain ⟨q, hq, e1, -⟩ := path_kid HC.out.all hy ha
   rw [e1]; omega⟩
 case round =>
  obtain ⟨k, hk, rfl, hb, hny⟩ := hrel
  have k0 : (0 : Int) ≤ (k : Int) := by omega
  have hub := hb.out.size
  have HBW := Lib.hid (HBU.out.trans (hb.out.mono HBU.out.size))
  by_cases hlt : k < rs.length
  ·have k1 : (k : Int) < (rs.length : Int) := by omega
   obtain ⟨d0, -⟩ := HD1.out.below hb.out 0 _ rfl
   obtain ⟨b0, off, cs0, e0, hr0, -, hc0⟩ := (HRDW.out.below HBW.out) k hlt
   have hnm : wr.cell? ⟨b0, off + k * 8, none⟩ = some (.string rs[k].name) := by
    obtain ⟨_, _, _, _, _, _, _, _, rfl, -⟩ := hr0
    exact hc0 0 _ rfl
   subst e0
   have hskip := fun hp => Lib.hid (notyet_skip HC.out.all hlt hny.out hp)
   have hnext := fun hn => Lib.hid (notyet_next HC.out.all hlt hny.out hn)
   have htl := trim_le T1.data.toList rs[k].name.data.toList
   obtain ⟨nm, hnmE⟩ : ∃ nm, nm = rs[k].name := ⟨_, rfl⟩
   rw [← hnmE] at hnm htl hskip hnext
   have HNM := Lib.hid hnmE
   clear hr0 hc0 hnmE
   go_wp2_with fail
   refine (Tryz.strings_CutPrefix T1 nm _).mono ?_
   rintro e w2 ⟨rfl, rfl⟩
   obtain ⟨S, hS⟩ : ∃ S, S = (⟨(Lib.trimPrefix T1.data.toList nm.data.toList).toArray⟩ : ByteArray) := ⟨_, rfl⟩
   have hSz : S.size ≤ T1.size := by
    rw [hS]
    show (Lib.trimPrefix T1.data.toList nm.data.toList).toArray.size ≤ T1.data.size
    rw [List.size_toArray]
    simpa using htl
   rw [← hS] at hnext ⊢
   clear hS htl hnm
   by_cases hp : Lib.hasPrefix T1.data.toList nm.data.toList = true
   ·rw [hp]
    clear hskip hp
    obtain ⟨r0, -⟩ := HR1.out.below hb.out 0 _ rfl
    obtain ⟨r1, -⟩ := HR1.out.below hb.out 1 _ rfl
    obtain ⟨r2, -⟩ := HR1.out.below hb.out 2 _ rfl
    obtain ⟨r3, -⟩ := HR1.out.below hb.out 3 _ rfl
    obtain ⟨r4, -⟩ := HR1.out.below hb.out 4 _ rfl
    obtain ⟨r5, -⟩ := HR1.out.below hb.out 5 _ rfl
    obtain ⟨r6, -⟩ := HR1.out.below hb.out 6 _ rfl
    obtain ⟨r7, -⟩ := HR1.out.below hb.out 7 _ rfl
    go_wp2_with fail
    refine (next_impl (some ⟨b0, off, none⟩) rs cap k p _ _ HC.out.all (by omega) hlt (HRDW.out.below HBW.out) (HO1.out.is.below hb.out)).mono ?_
    rintro e y1 ⟨rfl, hb1⟩
    replace hb := Lib.hid (hb.out.trans (hb1.mono hb.out.size))
    replace HBW := Lib.hid (HBW.out.trans (hb1.mono HBW.out.size))
    clear hb1 r0 r1 r2 r3 r4 r5 r6 r7 d0
    have hu1 := hb.out.size
    obtain ⟨r0, -⟩ := HR1.out.below hb.out 0 _ rfl
    obtain ⟨r1, -⟩ := HR1.out.below hb.out 1 _ rfl
    obtain ⟨r2, -⟩ := HR1.out.below hb.out 2 _ rfl
    obtain ⟨r3, -⟩ := HR1.out.below hb.out 3 _ rfl
    obtain ⟨r4, -⟩ := HR1.out.below hb.out 4 _ rfl
    obtain ⟨r5, -⟩ := HR1.out.below hb.out 5 _ rfl
    obtain ⟨r6, -⟩ := HR1.out.below hb.out 6 _ rfl
    obtain ⟨r7, -⟩ := HR1.out.below hb.out 7 _ rfl
    obtain ⟨y2, hy2⟩ : ∃ y2, y2 = y1.alloc (.cells #[.string p.name, .int .i64 p.kind, .int .i64 p.size, .bool p.little, .slice x4 p.bytes.length j4, .slice x5 p.names.length j5, .slice x6 p.tags.length j6, .slice x7 p.kids.length j7] 59) := ⟨_, rfl⟩
    have hb2 : Below y1.heap.size y1 y2 := by subst hy2; exact (Below.refl _ _).alloc (Nat.le_refl _) _
    have hs2 : y2.heap.size = y1.heap.size + 1 := by subst hy2; simp
    have HX : Hid (CellsAt y1.heap.size [.string p.name, .int .i64 p.kind, .int .i64 p.size, .bool p.little, .slice x4 p.bytes.length j4, .slice x5 p.names.length j5, .slice x6 p.tags.length j6, .slice x7 p.kids.length j7] y2) := by subst hy2; exact CellsAt.new y1 _ _
    have r7b := (hb2.cell (cell_lt r7)).trans r7
    rw [hy2] at r7b
    have HB2 := Lib.hid (hb.out.trans (hb2.mono hb.out.size))
    have HBW2 := Lib.hid (HBW.out.trans (hb2.mono HBW.out.size))
    have HO2 := Lib.hid (HO1.out.below HB2.out)
    have hk7 : p.kids.length ≤ j7 ∧ (x7 = none → j7 = 0) := by
     obtain ⟨z4, t4, z5, t5, z6, t6, z7, t7, e, -, -, -, g7, -⟩ := HO2.out
     simp only [List.cons.injEq, Value.slice.injEq, true_and, and_true] at e
     obtain ⟨-, -, -, rfl, rfl⟩ := e
     exact g7.2
    have hrd7 : Hid (RdF (Value.int .i64) x7 p.kids y2) := by
     obtain ⟨z4, t4, z5, t5, z6, t6, z7, t7, e, -, -, -, g7, -⟩ := HO2.out
     simp only [List.cons.injEq, Value.slice.injEq, true_and, and_true] at e
     obtain ⟨-, -, -, rfl, rfl⟩ := e
     exact g7.rd
    have HY2 := Lib.hid hy2
    clear hb2 hy2
    go_wp2_with fail
    rw [← HY2.out]
    clear HY2 r0 r1 r2 r3 r4 r5 r6 r7 r7b
    refine (fresh_int x7 p.kids j7 (k : Int) _ (by omega) hk7.1 hk7.2 hrd7.out).mono ?_
    rintro e y3 ⟨kb, kc, rfl, hkb, hrow, hb3⟩
    obtain ⟨ks, hks⟩ : ∃ ks, ks = p.kids ++ [(k : Int)] := ⟨_, rfl⟩
    rw [← hks] at hrow hnext ⊢
    have hs3 := hb3.size
    have hkw : kb < y3.heap.size := by
     rcases hrow.1 with h0 | ⟨b', off', e, h1, h2⟩
     ·rw [hks] at h0; simp at h0
     ·injection e with e
      injection e with e
      subst e
      exact cell_lt (h2 0 (by rw [hks]; simp)).1
    have hNo := HO2.out.kidsNew hb3 (show u0.heap.size ≤ kb by omega) (show lo ≤ kb by omega) hkw hrow
    have HB3 := Lib.hid (HB2.out.trans (hb3.mono HB2.out.size))
    have HBW3 := Lib.hid (HBW2.out.trans (hb3.mono HBW2.out.size))
    replace HX := Lib.hid (HX.out.below hb3)
    obtain ⟨y4, hy4⟩ : ∃ y4, y4 = y3.setCell ⟨y1.heap.size, 7, none⟩ (.slice (some ⟨kb, 0, none⟩) ks.length kc) := ⟨_, rfl⟩
    have hs4 : y4.heap.size = y3.heap.size := by subst hy4; simp
    have NEN : Hid (∀ b ∈ ([.string p.name, .int .i64 p.kind, .int .i64 p.size, .bool p.little, .slice x4 p.bytes.length j4, .slice x5 p.names.length j5, .slice x6 p.tags.length j6, .slice (some ⟨kb, 0, none⟩) ks.length kc] : List Value).flatMap sliceBlk, b ∈ ([.string p.name, .int .i64 p.kind, .int .i64 p.size, .bool p.little, .slice x4 p.bytes.length j4, .slice x5 p.names.length j5, .slice x6 p.tags.length j6, .slice x7 p.kids.length j7] : List Value).flatMap sliceBlk ∨ b = kb) := fun b hb => by
     rw [blks_eq] at hb ⊢
     simp only [List.mem_append] at hb
     rcases hb with hb | hb | hb | hb
     ·exact .inl (by simp [hb])
     ·exact .inl (by simp [hb])
     ·exact .inl (by simp [hb])
     ·exact .inr (blk_new kb _ kc b hb)
    have HN4 : Hid (OwnRule lo y4.heap.size { p with kids := ks } [.string p.name, .int .i64 p.kind, .int .i64 p.size, .bool p.little, .slice x4 p.bytes.length j4, .slice x5 p.names.length j5, .slice x6 p.tags.length j6, .slice (some ⟨kb, 0, none⟩) ks.length kc] y4) := by
     rw [hs4]; subst hy4
     exact hNo.setOut (x := y1.heap.size) fun b hb => by
      rcases NEN.out b hb with q | q
      ·have := (NE.out b q).2.2.2; omega
      ·omega
    have HB4 : Hid (Below u0.heap.size u0 y4) := by subst hy4; exact HB3.out.setCell (p := ⟨y1.heap.size, 7, none⟩) (by show u0.heap.size ≤ y1.heap.size; omega) _
    have HBW4 : Hid (Below w.heap.size w y4) := by subst hy4; exact HBW3.out.setCell (p := ⟨y1.heap.size, 7, none⟩) (by show w.heap.size ≤ y1.heap.size; omega) _
    obtain ⟨n0, -⟩ := HX.out 0 _ rfl
    obtain ⟨n1, -⟩ := HX.out 1 _ rfl
    obtain ⟨n2, -⟩ := HX.out 2 _ rfl
    obtain ⟨n3, -⟩ := HX.out 3 _ rfl
    obtain ⟨n4, -⟩ := HX.out 4 _ rfl
    obtain ⟨n5, -⟩ := HX.out 5 _ rfl
    obtain ⟨n6, -⟩ := HX.out 6 _ rfl
    obtain ⟨n7, m7⟩ := HX.out 7 _ rfl
    obtain ⟨d0, -⟩ := HD1.out.below HB3.out 0 _ rfl
    have HY4 := Lib.hid hy4
    have hkl : ks.length = r.kids.length + 1 := by rw [hks, List.length_append, HPK.out]; rfl
    have HIN4 : Hid (Inv (2 * ks.length) { p with kids := ks }) := by
     have q := inv_kids (t := (k : Int)) HINP.out
     rw [show 2 * r.kids.length + 1 + 1 = 2 * ks.length from by omega, ← hks] at q
     exact q
    have hk9 : ks.length ≤ 9 := by omega
    clear hrow hb3 hNo hy4 hkl hks
    go_wp2_with fail
    rw [← HY4.out]
    clear HY4 n0 n1 n2 n3 n4 n5 n6 n7 m7 d0
    refine (HQ.out { p with kids := ks } [.string p.name, .int .i64 p.kind, .int .i64 p.size, .bool p.little, .slice x4 p.bytes.length j4, .slice x5 p.names.length j5, .slice x6 p.tags.length j6, .slice (some ⟨kb, 0, none⟩) ks.length kc] S y4.heap.size y4 (by omega) (by omega) HIN4.out hk9 (by omega) (Nat.le_refl _) (HTW.out.below HBW4.out) (HRDW.out.below HBW4.out) HN4.out).mono ?_
    rintro e y5 ⟨f, fcs, ok, rfl, hof, hb5, hbl5, hyes, hno⟩
    obtain ⟨g4, h4, g5, h5, g6, h6, g7, h7, rfl, -⟩ := id hof
    have hs5 := hb5.size
    have HB5 := Lib.hid (HB4.out.trans (hb5.mono HB4.out.size))
    have HBW5 := Lib.hid (HBW4.out.trans (hb5.mono HBW4.out.size))
    have HOF := Lib.hid hof
    have HYES := Lib.hid hyes
    have HF9 : Hid (∀ b ∈ ([.string f.name, .int .i64 f.kind, .int .i64 f.size, .bool f.little, .slice g4 f.bytes.length h4, .slice g5 f.names.length h5, .slice g6 f.tags.length h6, .slice g7 f.kids.length h7] : List Value).flatMap sliceBlk, b ≠ w.heap.size + 2 ∧ (b ∈ ([.string r.name, .int .i64 r.kind, .int .i64 r.size, .bool r.little, .slice a4 r.bytes.length c4, .slice a5 r.names.length c5, .slice a6 r.tags.length c6, .slice a7 r.kids.length c7] : List Value).flatMap sliceBlk ∨ w.heap.size ≤ b)) := fun b hb => by
     rcases hbl5 b hb with q | q
     ·rcases NEN.out b q with q | q
      ·exact ⟨(NE.out b q).2.2.1, HBL.out b q⟩
      ·exact ⟨by omega, .inr (by omega)⟩
     ·exact ⟨by omega, .inr (by omega)⟩
    cases ok with
    | true =>
     have HBa : Hid (Below y5.heap.size y5 (y5.alloc (.cells #[.string f.name, .int .i64 f.kind, .int .i64 f.size, .bool f.little, .slice g4 f.bytes.length h4, .slice g5 f.names.length h5, .slice g6 f.tags.length h6, .slice g7 f.kids.length h7] 59))) := (Below.refl _ _).alloc (Nat.le_refl _) _
     obtain ⟨z0, t0⟩ := HZ1.out.below (HB5.out.trans (HBa.out.mono HB5.out.size)) 0 _ rfl
     obtain ⟨z1, t1⟩ := HZ1.out.below (HB5.out.trans (HBa.out.mono HB5.out.size)) 1 _ rfl
     obtain ⟨z2, t2⟩ := HZ1.out.below (HB5.out.trans (HBa.out.mono HB5.out.size)) 2 _ rfl
     obtain ⟨z3, t3⟩ := HZ1.out.below (HB5.out.trans (HBa.out.mono HB5.out.size)) 3 _ rfl
     obtain ⟨z4, t4⟩ := HZ1.out.below (HB5.out.trans (HBa.out.mono HB5.out.size)) 4 _ rfl
     obtain ⟨z5, t5⟩ := HZ1.out.below (HB5.out.trans (HBa.out.mono HB5.out.size)) 5 _ rfl
     obtain ⟨z6, t6⟩ := HZ1.out.below (HB5.out.trans (HBa.out.mono HB5.out.size)) 6 _ rfl
     obtain ⟨z7, t7⟩ := HZ1.out.below (HB5.out.trans (HBa.out.mono HB5.out.size)) 7 _ rfl
     clear hof hb5 hbl5 hyes hno hnext
     go_wp2
     (try simp only [Exit.inBlock, Exit.then])
     refine bodyPost_ret (v := .tuple #[.agg #[.string f.name, .int .i64 f.kind, .int .i64 f.size, .bool f.little, .slice g4 f.bytes.length h4, .slice g5 f.names.length h5, .slice g6 f.tags.length h6, .slice g7 f.kids.length h7], .bool true]) ?_ rfl ?_
     ·simp [results, Tryz.results118, go_sem, z0, z1, z2, z3, z4, z5, z6, z7]
     ·exact ⟨_, _, _, rfl, ((((((((((HOF.out.below HBa.out).more (Nat.le_refl _) (show y5.heap.size ≤ (y5.alloc (.cells #[.string f.name, .int .i64 f.kind, .int .i64 f.size, .bool f.little, .slice g4 f.bytes.length h4, .slice g5 f.names.length h5, .slice g6 f.tags.length h6, .slice g7 f.kids.length h7] 59)).heap.size by simp)).setOut (x := w.heap.size + 2) (i := 0) (fun b hb => (HF9.out b hb).1)).setOut (x := w.heap.size + 2) (i := 1) (fun b hb => (HF9.out b hb).1)).setOut (x := w.heap.size + 2) (i := 2) (fun b hb => (HF9.out b hb).1)).setOut (x := w.heap.size + 2) (i := 3) (fun b hb => (HF9.out b hb).1)).setOut (x := w.heap.size + 2) (i := 4) (fun b hb => (HF9.out b hb).1)).setOut (x := w.heap.size + 2) (i := 5) (fun b hb => (HF9.out b hb).1)).setOut (x := w.heap.size + 2) (i := 6) (fun b hb => (HF9.out b hb).1)).setOut (x := w.heap.size + 2) (i := 7) (fun b hb => (HF9.out b hb).1)).more (Nat.le_refl _) (by simp), (((((((((HBW5.out.trans (HBa.out.mono HBW5.out.size)).setCell (p := ⟨w.heap.size + 2, 0, none⟩) (by show w.heap.size ≤ w.heap.size + 2; omega) _).setCell (p := ⟨w.heap.size + 2, 1, none⟩) (by show w.heap.size ≤ w.heap.size + 2; omega) _).setCell (p := ⟨w.heap.size + 2, 2, none⟩) (by show w.heap.size ≤ w.heap.size + 2; omega) _).setCell (p := ⟨w.heap.size + 2, 3, none⟩) (by show w.heap.size ≤ w.heap.size + 2; omega) _).setCell (p := ⟨w.heap.size + 2, 4, none⟩) (by show w.heap.size ≤ w.heap.size + 2; omega) _).setCell (p := ⟨w.heap.size + 2, 5, none⟩) (by show w.heap.size ≤ w.heap.size + 2; omega) _).setCell (p := ⟨w.heap.size + 2, 6, none⟩) (by show w.heap.size ≤ w.heap.size + 2; omega) _).setCell (p := ⟨w.heap.size + 2, 7, none⟩) (by show w.heap.size ≤ w.heap.size + 2; omega) _), fun b hb => (HF9.out b hb).2, fun _ => HYES.out trivial, (fun e => by cases e)⟩
    | false =>
     have HN := hnext (hno rfl).2.2
     clear hof hb5 hbl5 hyes hno hnext
     go_wp2
     go_roundw
     case rel => exact ⟨k + 1, by omega, by go_num, HB5.out.alloc HB5.out.size _, HN⟩
     case measure => simp [intOf]; omega
   ·have hp' : Lib.hasPrefix T1.data.toList nm.data.toList = false := by simpa using hp
    have HN := hskip hp'
    rw [hp']
    clear hskip hnext hp hp'
    go_wp2
    go_roundw
    case rel => exact ⟨k + 1, by omega, by go_num, hb, HN⟩
    case measure => simp [intOf]; omega
  ·have k1 : ¬ (k : Int) < (rs.length : Int) := by omega
   obtain rfl : k = rs.length := by omega
   have HNO : Hid (∀ y m, Acc rs J y → ¬ OnPath rs y m r T) := fun y m hy hp => notyet_end HC.out.all hny.out y m hy (HPATH.out y m hy hp)
   obtain ⟨z0, t0⟩ := HZ1.out.below hb.out 0 _ rfl
   obtain ⟨z1, t1⟩ := HZ1.out.below hb.out 1 _ rfl
   obtain ⟨z2, t2⟩ := HZ1.out.below hb.out 2 _ rfl
   obtain ⟨z3, t3⟩ := HZ1.out.below hb.out 3 _ rfl
   obtain ⟨z4, t4⟩ := HZ1.out.below hb.out 4 _ rfl
   obtain ⟨z5, t5⟩ := HZ1.out.below hb.out 5 _ rfl
   obtain ⟨z6, t6⟩ := HZ1.out.below hb.out 6 _ rfl
   obtain ⟨z7, t7⟩ := HZ1.out.below hb.out 7 _ rfl
   go_wp2
   (try simp only [Exit.inBlock, Exit.then])
   refine bodyPost_ret (v := .tuple #[.agg #[.string ⟨#[]⟩, .int .i64 0, .int .i64 0, .bool false, .slice none 0 0, .slice none 0 0, .slice none 0 0, .slice none 0 0], .bool false]) ?_ rfl ?_
   ·simp [results, Tryz.results118, go_sem, z0, z1, z2, z3, z4, z5, z6, z7]
   ·exact ⟨_, _, _, rfl, zero_own lo _ _, ((((((((HBW.out.setCell (p := ⟨w.heap.size + 2, 0, none⟩) (by show w.heap.size ≤ w.heap.size + 2; omega) _).setCell (p := ⟨w.heap.size + 2, 1, none⟩) (by show w.heap.size ≤ w.heap.size + 2; omega) _).setCell (p := ⟨w.heap.size + 2, 2, none⟩) (by show w.heap.size ≤ w.heap.size + 2; omega) _).setCell (p := ⟨w.heap.size + 2, 3, none⟩) (by show w.heap.size ≤ w.heap.size + 2; omega) _).setCell (p := ⟨w.heap.size + 2, 4, none⟩) (by show w.heap.size ≤ w.heap.size + 2; omega) _).setCell (p := ⟨w.heap.size + 2, 5, none⟩) (by show w.heap.size ≤ w.heap.size + 2; omega) _).setCell (p := ⟨w.heap.size + 2, 6, none⟩) (by show w.heap.size ≤ w.heap.size + 2; omega) _).setCell (p := ⟨w.heap.size + 2, 7, none⟩) (by show w.heap.size ≤ w.heap.size + 2; omega) _), (fun b hb => by simp [sliceBlk] at hb), (fun e => by cases e), fun _ => ⟨rfl, rfl, HNO.out⟩⟩
theorem kids_of {rs : List RuleV} {J : ByteArray} {a : Option Addr} {cap lo : Nat} (cx : Ctx rs J a cap) : ∀ n, KidsC rs J a cap lo n := fun n => by
 induction n using Nat.strongRecOn with
 | _ n ih =>
  intro r cs T hi w hn hT hin hk hlo hhi ht hrd h
  have h' := h
  obtain ⟨a4, c4, a5, c5, a6, c6, a7, c7, rfl, -⟩ := h'
  exact kids_walk rs J a cap lo hi r a4 a5 a6 a7 c4 c5 c6 c7 T w cx hT hin hk hlo hhi ht hrd h (rest_of cx fun m hm => ih m (by omega))
end Go.Proofs.YtndjefednfcmmaaGreatDoor
