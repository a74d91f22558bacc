/- Contracts of CountKind and KidName, of the model and of the program. Contracts of DescriptionNames, of the model and of the program. Contracts of the program's Max and LongestLine (at a valid description). -/
import Derived.Test.YtkegjgfggijinaaGreatDoorDescrImpl
import Derived.BigQuiet
import Derived.Test.YtkegjgfggijinaaGreatDoorStrs
import Derived.Test.YtkegjgfggijinaaGreatDoorPushF
import Derived.Test.YtkegjgfggijinaaGreatDoorGFields
import Derived.Test.YtkegjgfggijinaaGreatDoorGTxt
namespace Go.Proofs.YtkegjgfggijinaaGreatDoor
open Go Go.RowKit
/-- How many of the rules are of a kind. -/
def countK (k : Int) : List RuleV → Nat
  | [] => 0
  | r :: rs => (if r.kind = k then 1 else 0) + countK k rs
theorem countK_take {k : Int} {rs : List RuleV} {j : Nat} (h : j < rs.length) : countK k (rs.take (j + 1)) = countK k (rs.take j) + (if rs[j].kind = k then 1 else 0) := by
  induction rs generalizing j with
  | nil => simp at h
  | cons r rs ih =>
    cases j with
    | zero => simp [countK]
    | succ j =>
      have := ih (j := j) (by simpa using h)
      simp only [List.take_succ_cons, countK, List.getElem_cons_succ]
      omega
theorem countK_le (k : Int) (rs : List RuleV) : countK k rs ≤ rs.length := by
  induction rs with
  | nil => simp [countK]
  | cons r rs ih => simp only [countK, List.length_cons]; split <;> omega
set_option maxRecDepth 100000 in
theorem count_impl (a : Option Addr) (rs : List RuleV) (cap : Nat) (x : Int) (w : World) (hl : rs.length ≤ 1073741824) (h : RdR a rs w) :
    Calls Tryz.prog 25 #[.agg #[.slice a rs.length cap], .int .i64 x] w fun e w' => e = .returned (.int .i64 ((countK x rs : Nat) : Int)) ∧ Below w.heap.size w w' := by
  have hB : Below w.heap.size w (w.alloc (.cells #[.slice a rs.length cap] 26)) := (Below.refl _ _).alloc (Nat.le_refl _) _
  have H := Lib.hid h
  have HB := Lib.hid hB
  clear h hB
  go_enter Tryz.func25, Tryz.ntmps25
  go_wp2
  go_loopw [5, 11] (fun q i W => ∃ k n : Nat, k ≤ rs.length ∧ n ≤ k ∧ i = .int .i64 k ∧ q = .int .i64 (n : Int) ∧ Hid (n = countK x (rs.take k)) ∧ Hid (Below w.heap.size w W)) (fun _ i _ => rs.length - (intOf i).toNat)
  case atStart => exact ⟨0, 0, Nat.zero_le _, Nat.le_refl _, rfl, rfl, rfl, HB⟩
  case round =>
    obtain ⟨k, n, hk, hn, rfl, rfl, hf, hb⟩ := hrel
    have k0 : (0 : Int) ≤ (k : Int) := by omega
    by_cases hlt : k < rs.length
    · have k1 : (k : Int) < (rs.length : Int) := by omega
      obtain ⟨b, off, a4, c4, a5, c5, a6, c6, a7, c7, rfl, ⟨d0, d1, d2, d3, d4, d5, d6, d7⟩, -⟩ := (H.out.below hb.out).at k hlt
      have hc := Lib.hid (countK_take (k := x) hlt)
      by_cases hx : rs[k].kind = x
      · have hr : Hid (n + 1 = countK x (rs.take (k + 1))) := by show _ = _; rw [hc.out, hf.out, if_pos hx]
        have g1 : (rs[k].kind == x) = true := by simpa using hx
        generalize rs[k].kind = y at d1 g1
        clear hx hc
        go_wp2
        go_roundw
        case rel => exact ⟨k + 1, n + 1, by omega, by omega, by go_num, by go_num, hr, hb.out.alloc hb.out.size _⟩
        case measure => simp [intOf]; omega
      · have hr : Hid (n = countK x (rs.take (k + 1))) := by show _ = _; rw [hc.out, hf.out, if_neg hx]; simp
        have g1 : (rs[k].kind == x) = false := by simpa using hx
        generalize rs[k].kind = y at d1 g1
        clear hx hc
        go_wp2
        go_roundw
        case rel => exact ⟨k + 1, n, by omega, by omega, by go_num, rfl, hr, hb.out.alloc hb.out.size _⟩
        case measure => simp [intOf]; omega
    · have k1 : ¬ (k : Int) < (rs.length : Int) := by omega
      have hr : Hid (n = countK x rs) := by
        have := hf.out
        rw [List.take_of_length_le (by omega)] at this
        exact this
      go_wp2
      go_ret
      exact ⟨ret_int (by rw [hr.out]), hb.out⟩
end Go.Proofs.YtkegjgfggijinaaGreatDoor
namespace Go.Proofs.YtkegjgfggijinaaGreatDoor
open Go Go.RowKit
/-- The names of rules. -/
def namesOf (rs : List RuleV) : List ByteArray := rs.map RuleV.name
theorem namesOf_length (rs : List RuleV) : (namesOf rs).length = rs.length := by simp [namesOf]
theorem namesOf_at {rs : List RuleV} {k : Nat} (h : k < rs.length) (h' : k < (namesOf rs).length) : (namesOf rs)[k] = rs[k].name := by simp [namesOf]
theorem namesOf_next {rs : List RuleV} {k : Nat} (h : k < rs.length) : (namesOf rs).take k ++ [rs[k].name] = (namesOf rs).take (k + 1) := by
  rw [List.take_succ_eq_append_getElem (by rw [namesOf_length]; exact h), namesOf_at h]
theorem HalfF.later {α : Type} {f : α → Value} {z : Value} {xs : List α} {k N : Nat} {w W W' : World} (h : HalfF f z xs k N w W) (hb : Below W.heap.size W W') : HalfF f z xs k N w W' :=
  ⟨h.1.trans (hb.mono h.1.size), fun j hj => ⟨(hb.cell (cell_lt (h.2 j hj).1)).trans (h.2 j hj).1, (hb.frozen (p := ⟨N, j, none⟩) (cell_lt (h.2 j hj).1)).trans (h.2 j hj).2⟩⟩
set_option maxRecDepth 100000 in
set_option maxHeartbeats 1000000 in
theorem dn_impl (a : Option Addr) (rs : List RuleV) (cap : Nat) (ns : List ByteArray) (w : World) (hl : rs.length ≤ 1073741824) (hns : ns = namesOf rs) (h : RdR a rs w) :
    Calls Tryz.prog 24 #[.agg #[.slice a rs.length cap]] w (StrsOut ns w) := by
  obtain ⟨w0, hw0⟩ : ∃ w0, w0 = w.alloc (.cells #[.slice a rs.length cap] 26) := ⟨_, rfl⟩
  have hB0 : Below w.heap.size w w0 := by subst hw0; exact (Below.refl _ _).alloc (Nat.le_refl _) _
  have HB0 := Lib.hid hB0
  have HR := Lib.hid (h.below hB0)
  have hs0 : Hid (w0.heap.size = w.heap.size + 1) := by subst hw0; exact World.size_alloc _ _
  have hW := Lib.hid hw0
  have HNS := Lib.hid hns
  have hmk := make_strs rs.length (by omega)
  clear h hB0 hw0 hns
  go_enter Tryz.func24, Tryz.ntmps24
  go_wp2
  rw [← hW.out]
  clear hmk
  have hz : w0.heap.size = w.heap.size + 1 := hs0.out
  rw [← hz]
  clear hz
  obtain ⟨M, hM0⟩ : ∃ M, M = w0.heap.size := ⟨_, rfl⟩
  rw [← hM0]
  have hM := Lib.hid hM0
  clear hM0
  go_loopw [13] (fun i W => ∃ k : Nat, k ≤ rs.length ∧ i = .int .i64 k ∧ Hid (HalfF Value.string (.string ⟨#[]⟩) (namesOf rs) k M w0 W)) (fun i _ => rs.length - (intOf i).toNat)
  case atStart =>
    refine ⟨0, Nat.zero_le _, rfl, ?_⟩
    have h1 := HalfF.start (f := Value.string) (.string ⟨#[]⟩) (namesOf rs) 9 w0
    rw [namesOf_length, ← hM.out] at h1
    exact h1
  case round =>
    obtain ⟨k, hk, rfl, hh⟩ := hrel
    have k0 : (0 : Int) ≤ (k : Int) := by omega
    by_cases hlt : k < rs.length
    · have k1 : (k : Int) < (rs.length : Int) := by omega
      obtain ⟨b, off, a4, c4, a5, c5, a6, c6, a7, c7, rfl, ⟨d0, d1, d2, d3, d4, d5, d6, d7⟩, -⟩ := (HR.out.below hh.out.1).at k hlt
      have hlt2 : k < (namesOf rs).length := by rw [namesOf_length]; exact hlt
      have hb1 : ∀ o, Below wr.heap.size wr (wr.alloc o) := fun o => (Below.refl _ _).alloc (Nat.le_refl _) _
      have hn := fun o => Lib.hid ((hh.out.next (Nat.le_of_eq hM.out.symm) hlt2).later ((Below.refl _ _).alloc (Nat.le_refl _) o))
      have hcf := fun o => Lib.hid ((hh.out.later (hb1 o)).2 k hlt2)
      have hMlt : M < wr.heap.size := cell_lt (hh.out.2 k hlt2).1
      simp only [namesOf_at hlt] at hn
      generalize rs[k] = r at *
      obtain ⟨hd, hf⟩ := (hcf (.cells #[.string r.name, .int .i64 r.kind, .int .i64 r.size, .bool r.little, .slice a4 r.bytes.length c4, .slice a5 r.names.length c5, .slice a6 r.tags.length c6, .slice a7 r.kids.length c7] 39)).out
      rw [if_neg (by omega)] at hd
      have hnn := hn (.cells #[.string r.name, .int .i64 r.kind, .int .i64 r.size, .bool r.little, .slice a4 r.bytes.length c4, .slice a5 r.names.length c5, .slice a6 r.tags.length c6, .slice a7 r.kids.length c7] 39)
      clear hn hcf hb1
      go_wp2
      go_roundw
      case rel => exact ⟨k + 1, by omega, by go_num, hnn⟩
      case measure => simp [intOf]; omega
    · have k1 : ¬ (k : Int) < (rs.length : Int) := by omega
      obtain rfl : k = rs.length := by omega
      have hh2 := hh.out
      rw [← namesOf_length rs, hM.out, ← HNS.out] at hh2
      have HE := Lib.hid hh2.end
      have HBW := Lib.hid (HB0.out.trans (hh2.1.mono HB0.out.size))
      have hnl : Hid (rs.length = ns.length) := by show _ = _; rw [HNS.out, namesOf_length]
      clear hh2
      go_wp2
      go_ret
      simp only [hnl.out, hM.out]
      exact ⟨_, _, rfl, ⟨HE.out.more (by have := hs0.out; omega), Nat.le_refl _, (fun e => by cases e)⟩, HBW.out⟩
end Go.Proofs.YtkegjgfggijinaaGreatDoor
namespace Go.Proofs.YtkegjgfggijinaaGreatDoor
open Go Go.RowKit
theorem outer_max (a b : Int) (w : World) (c : Nat) (hc : w.cell? ⟨c, 0, none⟩ = some (.int .i64 b)) :
    Calls Tryz.prog 112 #[.bool true, .int .i64 a, .slice (some ⟨c, 0, none⟩) 1 1] w fun e w' => e = .returned (.int .i64 (if a < b then b else a)) ∧ w = w' := by
  by_cases h : a < b
  all_goals
    go_enter Tryz.func112, Tryz.ntmps112
    go_wp2
    go_loop [7, 9, 13] (fun t _ i => ∃ k : Nat, k ≤ 1 ∧ i = .int .i64 k ∧ t = .int .i64 (if k = 1 then (if a < b then b else a) else a)) (fun _ _ i => 1 - (intOf i).toNat)
    case atStart => exact ⟨0, Nat.zero_le _, rfl, rfl⟩
    case round =>
      obtain ⟨k, hk, rfl, rfl⟩ := hrel
      obtain rfl | rfl : k = 0 ∨ k = 1 := by omega
      · go_wp2
        go_round
        case rel => exact ⟨1, by omega, rfl, by first | rw [if_pos rfl, if_pos h] | rw [if_pos rfl, if_neg (by omega)]⟩
        case measure => simp [intOf]
      · go_wp2
        go_ret
        exact ⟨rfl, rfl⟩
theorem max_impl (a b : Int) (w : World) :
    Calls Tryz.prog 60 #[.int .i64 a, .int .i64 b] w fun e w' => e = .returned (.int .i64 (if a < b then b else a)) ∧ Below w.heap.size w w' := by
  have hB : Below w.heap.size w (w.alloc (Obj.cells #[.int .i64 b] 3)) := (Below.refl _ _).alloc (Nat.le_refl _) _
  obtain ⟨m, hm⟩ : ∃ m, m = if a < b then b else a := ⟨_, rfl⟩
  rw [← hm]
  have HM := Lib.hid hm
  clear hm
  go_enter Tryz.func60, Tryz.ntmps60
  go_wp2_with fail
  refine (outer_max a b (w.alloc (Obj.cells #[.int .i64 b] 3)) w.heap.size (by simp)).mono ?_
  rintro e w1 ⟨rfl, rfl⟩
  rw [← HM.out]
  go_wp2
  go_ret
  exact ⟨rfl, hB⟩
set_option maxRecDepth 100000 in
set_option maxHeartbeats 1000000 in
theorem longest_impl (a : Option Addr) (rs : List RuleV) (cap : Nat) (w : World) (hl : rs.length ≤ 1048576) (hsh : ∀ r ∈ rs, Short r) (hsp : ∀ r ∈ rs, Spelt r) (hv : allV (kindI rs) rs) (htab : PowTab w) (hrd : RdC a rs w) :
    Calls Tryz.prog 21 #[.agg #[.slice a rs.length cap]] w fun e w' => ∃ m : Nat, e = .returned (.int .i64 (m : Int)) ∧ (∀ k, k < rs.length → (lineAt rs k).size ≤ m) ∧ m ≤ 16777216 ∧ Below w.heap.size w w' := by
  obtain ⟨w0, hw0⟩ : ∃ w0, w0 = w.alloc (.cells #[.slice a rs.length cap] 26) := ⟨_, rfl⟩
  have hB : Below w.heap.size w w0 := by subst hw0; exact (Below.refl _ _).alloc (Nat.le_refl _) _
  have hX : CellsAt w.heap.size [.slice a rs.length cap] w0 := by subst hw0; exact CellsAt.new w _ _
  have HX := Lib.hid hX
  have HB := Lib.hid hB
  have HRD := Lib.hid (hrd.below hB)
  have HT := Lib.hid (htab.below hB)
  have HSH := Lib.hid hsh
  have HSP := Lib.hid hsp
  have HV := Lib.hid hv
  have HNM : Hid (∀ r ∈ rs, r.name.size ≤ 1048576) := fun r hr => (hsp r hr).1
  clear hB hX hrd htab hsh hsp hv
  go_enter Tryz.func21, Tryz.ntmps21
  go_wp2
  rw [← hw0]
  clear hw0
  go_loopw [3, 4, 8] (fun q _ i W => ∃ k m : Nat, k ≤ rs.length ∧ i = .int .i64 k ∧ q = .int .i64 (m : Int) ∧ m ≤ 16777216 ∧ Hid (∀ j, j < k → (lineAt rs j).size ≤ m) ∧ Hid (Below w0.heap.size w0 W)) (fun _ _ i _ => rs.length - (intOf i).toNat)
  case atStart => exact ⟨0, 0, Nat.zero_le _, rfl, rfl, Nat.zero_le _, fun j hj => by omega, Below.refl _ _⟩
  case round =>
    obtain ⟨k, m, hk, rfl, rfl, hm, hall, hb⟩ := hrel
    have k0 : (0 : Int) ≤ (k : Int) := by omega
    by_cases hlt : k < rs.length
    · have k1 : (k : Int) < (rs.length : Int) := by omega
      have hv := Lib.hid (HV.out k hlt)
      have hls := line_size (n := k) (validAt_kind hlt hv.out) HNM.out (HNM.out _ (List.getElem_mem hlt))
      have hla := Lib.hid (lineAt_in hlt)
      have hx := (HX.out.below hb.out 0 _ rfl).1
      go_wp2_with fail
      refine (frule_impl a rs cap k _ hl hlt HSH.out HSP.out hv.out (HT.out.below hb.out) (HRD.out.below hb.out)).mono ?_
      rintro e w1 ⟨rfl, hb1⟩
      have Hb1 := Lib.hid (hb.out.trans (hb1.mono hb.out.size))
      clear hb1 hb hx
      rw [← hla.out] at hls ⊢
      have hnx : Hid (∀ M : Nat, m ≤ M → (lineAt rs k).size ≤ M → ∀ j, j < k + 1 → (lineAt rs j).size ≤ M) := fun M h1 h2 j hj => by
        by_cases e : j = k
        · rw [e]; exact h2
        · exact Nat.le_trans (hall.out j (by omega)) h1
      generalize lineAt rs k = ln at hls hnx ⊢
      go_wp2_with fail
      refine (max_impl (m : Int) (ln.size : Int) _).mono ?_
      rintro e w2 ⟨rfl, hb2⟩
      have Hb2 := Lib.hid (Hb1.out.trans (hb2.mono Hb1.out.size))
      clear hb2 Hb1
      obtain ⟨M, hM, h1, h2, h3⟩ : ∃ M : Nat, (if (m : Int) < (ln.size : Int) then (ln.size : Int) else (m : Int)) = (M : Int) ∧ m ≤ M ∧ ln.size ≤ M ∧ M ≤ 16777216 := by
        by_cases h : (m : Int) < (ln.size : Int)
        · exact ⟨ln.size, by rw [if_pos h], by omega, Nat.le_refl _, hls⟩
        · exact ⟨m, by rw [if_neg h], Nat.le_refl _, by omega, hm⟩
      rw [hM]
      have hal := Lib.hid (hnx.out M h1 h2)
      clear hM h1 h2 hls
      go_wp2
      go_roundw
      case rel => exact ⟨k + 1, M, by omega, by go_num, rfl, h3, hal, Hb2⟩
      case measure => simp [intOf]; omega
    · have k1 : ¬ (k : Int) < (rs.length : Int) := by omega
      obtain rfl : k = rs.length := by omega
      have HB1 := Lib.hid (HB.out.trans (hb.out.mono HB.out.size))
      go_wp2
      go_ret
      exact ⟨m, rfl, hall.out, hm, HB1.out⟩
end Go.Proofs.YtkegjgfggijinaaGreatDoor
