/- The text of a valid description, read again; the normal form of a text: plain facts. No program is walked here. -/
import Derived.Test.YtndjefednfcmmaaGreatDoorGRdB
namespace Go.Proofs.YtndjefednfcmmaaGreatDoor
open Go Go.RowKit
theorem split_text {rs : List RuleV} (hl : ∀ k, k < rs.length → ∀ c ∈ lst (lineAt rs k), c ≠ 10) : ∀ k, k ≤ rs.length → ∀ l, splitL 10 (textL rs k ++ l) = ((List.range k).map fun i => lst (lineAt rs i)) ++ splitL 10 l
 | 0, _, l => by simp [textL]
 | k + 1, hk, l => by
  have h1 : textL rs (k + 1) ++ l = textL rs k ++ (lst (lineAt rs k) ++ 10 :: l) := by
   show textL rs k ++ (lineAt rs k).data.toList ++ [10] ++ l = _
   simp [lst]
  rw [h1, split_text hl k (by omega), splitL_cut (hl k (by omega)), List.range_succ, List.map_append]
  simp
theorem lines_of_text {rs : List RuleV} (hl : ∀ k, k < rs.length → ∀ c ∈ lst (lineAt rs k), c ≠ 10) (k : Nat) (hk : k ≤ rs.length) : linesS (textS rs k) = (List.range k).map (lineAt rs) := by
 have e : lst (textS rs k) = textL rs k := by show (textL rs k).toArray.toList = _; simp
 have h := split_text hl k hk []
 rw [List.append_nil] at h
 have hp : parts 10 (textS rs k) = (List.range k).map (lineAt rs) ++ [⟨#[]⟩] := by
  unfold parts txts
  rw [e, h, List.map_append, List.map_map]
  congr 1
 have hlast : lastS (parts 10 (textS rs k)) = ⟨#[]⟩ := by
  unfold lastS
  rw [hp]
  simp [List.getD]
 unfold linesS
 rw [if_pos hlast, hp]
 simp
theorem read_from {rs : List RuleV} {ls : List ByteArray} (h : allV (kindI rs) rs) (h0 : 0 < rs.length) (h24 : rs.length ≤ 24) (hls : ls = (List.range rs.length).map (lineAt rs)) : ∀ j k, k + j = rs.length → readL (ls.drop k) (rs.take k) k = (rs, 0)
 | 0, k, hk => by
  have e : k = ls.length := by rw [hls]; simp; omega
  subst e
  rw [readL_end, List.take_of_length_le (by omega), if_neg (by omega)]
 | j + 1, k, hk => by
  have hlt : k < rs.length := by omega
  have hl2 : k < ls.length := by rw [hls]; simpa using hlt
  have hat : ls[k] = lineAt rs k := by simp only [hls, List.getElem_map, List.getElem_range]
  rw [readL_some (rs' := rs.take (k + 1)) hl2 (by
   rw [hat, ← take_snoc hlt]
   exact stepR_add (allV_take h (by omega)) (comment_line h hlt) (by rw [take_len (by omega)]; omega) (by rw [spaced_line h hlt]; exact acc_line h hlt))]
  exact read_from h h0 h24 hls j (k + 1) (by omega)
theorem textD_yes {rs : List RuleV} (h : descrB (kindI rs) rs = true) : textD rs = textS rs rs.length := by unfold textD; rw [if_pos h]
theorem parse_text {rs : List RuleV} (h : descrB (kindI rs) rs = true) : parseD (textD rs) = (rs, 0) := by
 obtain ⟨⟨h0, h24⟩, hv⟩ := descrB_iff.1 h
 rw [textD_yes h]
 unfold parseD
 have hl := lines_of_text (fun k hk => line_nl hv hk) rs.length (Nat.le_refl _)
 have := read_from hv h0 h24 hl rs.length 0 (by omega)
 simpa using this
theorem count_text {rs : List RuleV} (h : descrB (kindI rs) rs = true) : countC (linesS (textD rs)) = rs.length := by
 obtain ⟨⟨h0, h24⟩, hv⟩ := descrB_iff.1 h
 rw [textD_yes h, lines_of_text (fun k hk => line_nl hv hk) rs.length (Nat.le_refl _)]
 unfold countC
 rw [List.filter_eq_self.2 (fun l hl => by
  obtain ⟨i, hi, rfl⟩ := List.mem_map.1 hl
  rw [comment_line hv (List.mem_range.1 hi)]; rfl)]
 simp
theorem stepR_keeps {rs rs' : List RuleV} {l : ByteArray} (h : allV (kindI rs) rs) (hl : rs.length ≤ 24) (e : stepR rs l = some rs') : allV (kindI rs') rs' ∧ rs'.length ≤ 24 := by
 by_cases hc : commentW (wordsS l) = true
 ·rw [stepR_skip hc] at e
  cases e
  exact ⟨h, hl⟩
 ·have hc' : commentW (wordsS l) = false := by simpa using hc
  by_cases hh : rs.length < 24 ∧ ∃ f, Acc rs (spaced l) f
  ·obtain ⟨h1, f, hf⟩ := hh
   rw [stepR_add h hc' h1 hf] at e
   cases e
   exact ⟨allV_snoc h hf.1, by simp; omega⟩
  ·rw [stepR_no hc' (by
    by_cases h1 : rs.length < 24
    ·exact .inr fun y hy => hh ⟨h1, y, hy⟩
    ·exact .inl (by omega))] at e
   cases e
theorem readL_valid : ∀ (ls : List ByteArray) (rs : List RuleV) (n : Nat), allV (kindI rs) rs → rs.length ≤ 24 → (readL ls rs n).2 = 0 → descrB (kindI (readL ls rs n).1) (readL ls rs n).1 = true
 | [], rs, n, h, hl, e => by
  rw [readL] at e ⊢
  by_cases h0 : rs.length = 0
  ·rw [if_pos h0] at e; simp at e
  ·rw [if_neg h0]; exact descrB_yes ⟨Nat.pos_of_ne_zero h0, hl⟩ h
 | l :: ls, rs, n, h, hl, e => by
  rw [readL] at e ⊢
  cases hs : stepR rs l with
  | none => rw [hs] at e; simp at e
  | some rs' =>
   rw [hs] at e
   obtain ⟨h1, h2⟩ := stepR_keeps h hl hs
   exact readL_valid ls rs' (n + 1) h1 h2 e
theorem readL_small : ∀ (ls : List ByteArray) (rs : List RuleV) (n : Nat), allV (kindI rs) rs → rs.length ≤ 24 → allV (kindI (readL ls rs n).1) (readL ls rs n).1 ∧ (readL ls rs n).1.length ≤ 24
 | [], rs, n, h, hl => by
  rw [readL]
  split
  ·exact ⟨allV_nil, by simp⟩
  ·exact ⟨h, hl⟩
 | l :: ls, rs, n, h, hl => by
  rw [readL]
  cases hs : stepR rs l with
  | none => exact ⟨allV_nil, by simp⟩
  | some rs' =>
   obtain ⟨h1, h2⟩ := stepR_keeps h hl hs
   exact readL_small ls rs' (n + 1) h1 h2
theorem parseD_valid {s : ByteArray} (h : (parseD s).2 = 0) : descrB (kindI (parseD s).1) (parseD s).1 = true := readL_valid _ _ _ allV_nil (Nat.zero_le _) h
theorem parseD_small (s : ByteArray) : allV (kindI (parseD s).1) (parseD s).1 ∧ (parseD s).1.length ≤ 24 := readL_small _ _ _ allV_nil (Nat.zero_le _)
theorem textS_small {rs : List RuleV} (hv : allV (kindI rs) rs) : ∀ k, k ≤ rs.length → (textS rs k).size ≤ k * 1001
 | 0, _ => Nat.zero_le _
 | k + 1, hk => by
  have h1 := textS_small hv k (by omega)
  have h2 := line_small hv (by omega : k < rs.length)
  rw [textS_next, ByteArray.size_append, ByteArray.size_append]
  show (textS rs k).size + (lineAt rs k).size + 1 ≤ _
  omega
theorem textD_small {rs : List RuleV} : (textD rs).size ≤ 24024 := by
 unfold textD
 split
 ·rename_i h
  obtain ⟨⟨h0, h24⟩, hv⟩ := descrB_iff.1 h
  have := textS_small hv rs.length (Nat.le_refl _)
  omega
 ·exact Nat.zero_le _
noncomputable def normT (s : ByteArray) : ByteArray := if (parseD s).2 = 0 then textD (parseD s).1 else ⟨#[]⟩
theorem norm_small (s : ByteArray) : (normT s).size ≤ 24024 := by
 unfold normT
 split
 ·exact textD_small
 ·exact Nat.zero_le _
theorem norm_text {rs : List RuleV} (h : descrB (kindI rs) rs = true) : normT (textD rs) = textD rs := by
 unfold normT
 rw [parse_text h]; rfl
theorem parse_none : parseD ⟨#[]⟩ = ([], 1) := by
 have e : linesS ⟨#[]⟩ = [] := by decide +kernel
 unfold parseD
 rw [e]; rfl
theorem norm_norm (s : ByteArray) : normT (normT s) = normT s := by
 by_cases h : (parseD s).2 = 0
 ·have e : normT s = textD (parseD s).1 := by unfold normT; rw [if_pos h]
  rw [e]
  exact norm_text (parseD_valid h)
 ·have e : normT s = ⟨#[]⟩ := by unfold normT; rw [if_neg h]
  rw [e]
  unfold normT
  rw [parse_none]; rfl
theorem textD_some {rs : List RuleV} (h : descrB (kindI rs) rs = true) : textD rs ≠ ⟨#[]⟩ := fun e => by
 obtain ⟨⟨h0, h24⟩, hv⟩ := descrB_iff.1 h
 rw [textD_yes h] at e
 obtain ⟨k, hk⟩ : ∃ k, rs.length = k + 1 := ⟨rs.length - 1, by omega⟩
 rw [hk, textS_next] at e
 have := congrArg ByteArray.size e
 rw [ByteArray.size_append] at this
 have h1 : (⟨#[10]⟩ : ByteArray).size = 1 := rfl
 have h2 : (⟨#[]⟩ : ByteArray).size = 0 := rfl
 omega
theorem norm_some (s : ByteArray) : (parseD s).2 = 0 ↔ normT s ≠ ⟨#[]⟩ := by
 constructor
 ·intro h
  have e : normT s = textD (parseD s).1 := by unfold normT; rw [if_pos h]
  rw [e]
  exact textD_some (parseD_valid h)
 ·intro h
  by_cases h0 : (parseD s).2 = 0
  ·exact h0
  ·exact absurd (by unfold normT; rw [if_neg h0]) h
end Go.Proofs.YtndjefednfcmmaaGreatDoor
