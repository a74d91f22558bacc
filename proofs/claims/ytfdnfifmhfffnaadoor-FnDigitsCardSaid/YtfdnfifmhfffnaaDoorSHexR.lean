/- The contracts of ReadHexDigits, the model's and the program's. -/
import Derived.Test.YtfdnfifmhfffnaaDoorDigP
import Derived.Test.YtfdnfifmhfffnaaDoorSDig
import Derived.Test.YtfdnfifmhfffnaaDoorIParse
import Derived.IntWalk
namespace Go.Proofs.YtfdnfifmhfffnaaDoor
open Go Go.RowKit
/-- Bytes in new memory, and a number. -/
def BytesNOut (bs : List UInt8) (n : Int) (w : World) (e : Ending) (w' : World) : Prop :=
  ∃ a cap, e = .returned (.tuple #[.slice a bs.length cap, .int .i64 n]) ∧ Row w.heap.size a bs cap w' ∧ Below w.heap.size w w'
theorem readH_two {s : ByteArray} {k : Nat} (h : k + 1 < s.size) (h0 : 0 ≤ hexV s[k]) (h1 : 0 ≤ hexV s[k + 1]) : (readH ((lst s).drop k)).2 = 2 + (readH ((lst s).drop (k + 2))).2 := by
  rw [drop_at s k (by omega), drop_at s (k + 1) h, readH, if_pos ⟨h0, h1⟩]
  show (readH ((lst s).drop (k + 2))).2 + 2 = _
  omega
theorem readH_bad {s : ByteArray} {k : Nat} (h : k + 1 < s.size) (hn : ¬ (0 ≤ hexV s[k] ∧ 0 ≤ hexV s[k + 1])) : (readH ((lst s).drop k)).2 = 0 := by
  rw [drop_at s k (by omega), drop_at s (k + 1) h, readH, if_neg hn]
theorem readH_end {s : ByteArray} {k : Nat} (hk : k ≤ s.size) (h : ¬ k + 1 < s.size) : (readH ((lst s).drop k)).2 = 0 := by
  have hl : ((lst s).drop k).length ≤ 1 := by rw [List.length_drop, lst_length]; omega
  match hd : (lst s).drop k, hl with
  | [], _ => rfl
  | [a], _ => rfl
  | a :: b :: l, hl => simp at hl
theorem runH_one {s : ByteArray} {k : Nat} (h : k < s.size) (h0 : 0 ≤ hexV s[k]) : runH ((lst s).drop k) = 1 + runH ((lst s).drop (k + 1)) := by
  rw [drop_at s k h, runH, if_pos h0]; omega
theorem runH_bad {s : ByteArray} {k : Nat} (h : k < s.size) (hn : ¬ 0 ≤ hexV s[k]) : runH ((lst s).drop k) = 0 := by
  rw [drop_at s k h, runH, if_neg hn]
theorem runH_end (s : ByteArray) : runH ((lst s).drop s.size) = 0 := by rw [drop_end]; rfl
theorem parse_read2 {s : ByteArray} {p e : Nat} (he : e = p + (readH ((lst s).drop p)).2) : (parseHexOf ((s.data.toList.drop p).take (e - p))).1 = (readH ((lst s).drop p)).1 := by
  have h1 := parse_read he
  rw [show (s.extract p e).data.toList = (s.data.toList.drop p).take (e - p) from by rw [extract_txt]; exact lst_txt _] at h1
  exact h1
theorem bytesN_of {bs bs' bs8 : List UInt8} {n n' : Int} {w w' w2 : World} {a : Option Addr} {cap : Nat} (h : bs' = bs) (hn : n' = n) (h8 : bs8 = bs) (hf : Row w2.heap.size a bs8 cap w') (hb : Below w2.heap.size w2 w') (hw : w2 = w) :
    BytesNOut bs n w (.returned (.tuple #[.slice a bs'.length cap, .int .i64 n'])) w' := by subst hw h hn h8; exact ⟨a, cap, rfl, hf, hb⟩
theorem tm_two {k p e : Nat} (hpk : p ≤ k) (he : e = k - (k - p) % 2) : (k : Int) - ((k : Int) - (p : Int)).tmod 2 = (e : Int) := by
  have h9 : ((k : Int) - (p : Int)) = ((k - p : Nat) : Int) := by omega
  have h8 : ((k - p : Nat) : Int).tmod 2 = (((k - p) % 2 : Nat) : Int) := (Int.ofNat_tmod (k - p) 2).symm
  rw [h9, h8]
  omega

set_option maxRecDepth 100000 in
set_option maxHeartbeats 2000000 in
theorem hexread_implN (s : ByteArray) (p : Nat) (w : World) (hp : p ≤ s.size) (hs : s.size ≤ 1073741824) :
    Calls Tryd.prog 9 #[.string s, .int .i64 (p : Int)] w (BytesNOut (readH ((lst s).drop p)).1 ((p + (readH ((lst s).drop p)).2 : Nat) : Int) w) := by
  have hin : decide ((0 : Int) ≤ (p : Int) ∧ (p : Int) ≤ (s.size : Int)) = true := decide_eq_true ⟨by omega, by omega⟩
  have p0 : (0 : Int) ≤ (p : Int) := by omega
  have HS : Hid (runH ((lst s).drop p) + p = p + runH ((lst s).drop p)) := by show _ = _; omega
  have HRR := Lib.hid (runH_read _ ((lst s).drop p) (Nat.le_refl _))
  go_enter Tryd.func9, Tryd.ntmps9
  go_wp2_with ((go_at_call 19; refine (inR_impl _ _ _ true _ hin).mono ?_; rintro e wx ⟨rfl, rfl⟩))
  go_loopw [6] (fun i W => ∃ k : Nat, p ≤ k ∧ k ≤ s.size ∧ i = .int .i64 (k : Int) ∧ Hid (runH ((lst s).drop p) + p = k + runH ((lst s).drop k)) ∧ W = w) (fun i _ => s.size - (intOf i).toNat)
  case atStart => exact ⟨p, by omega, by omega, rfl, HS, rfl⟩
  case round =>
    clear HS
    obtain ⟨k, hpk, hk, rfl, HI, rfl⟩ := hrel
    have k0 : (0 : Int) ≤ (k : Int) := by omega
    by_cases hlt : k < s.size
    · have k1 : (k : Int) < (s.size : Int) := by omega
      by_cases h0 : 0 ≤ hexV s[k]
      · have hn := runH_one hlt h0
        have HN : Hid (runH ((lst s).drop p) + p = (k + 1) + runH ((lst s).drop (k + 1))) := by show _ = _; have := HI.out; omega
        clear hn
        go_wp2_with ((go_at_call 22; refine (hexdig_impl _ _).mono ?_; rintro e1 wx ⟨rfl, rfl⟩))
        try go_wp2
        try go_roundw
        try refine And.intro ?rel ?measure
        case rel => exact ⟨k + 1, by omega, by omega, by go_num, HN, trivial⟩
        case measure => show s.size - ((k : Int) + 1).toNat < s.size - ((k : Int)).toNat; omega
      · skip
        have hz := runH_bad hlt h0
        obtain ⟨e, he⟩ : ∃ e, e = p + (readH ((lst s).drop p)).2 := ⟨_, rfl⟩
        have hk2 : runH ((lst s).drop p) = k - p := by have := HI.out; omega
        have hr2 := HRR.out
        rw [hk2] at hr2
        have he2 : e = k - (k - p) % 2 := by omega
        have HPR := Lib.hid (parse_read2 (s := s) (p := p) he)
        have HP8 := Lib.hid (parse_read (s := s) (p := p) he)
        have HE : Hid ((e : Int) = ((p + (readH ((lst s).drop p)).2 : Nat) : Int)) := by show _ = _; omega
        have hte := tm_two hpk he2
        have hme : (k : Int) - ((k : Int) - (p : Int)) % 2 = (e : Int) := by omega
        have hke : p ≤ e := by omega
        have hke2 : e ≤ s.size := by omega
        have hke3 : (p : Int) ≤ (e : Int) := by omega
        have hke4 : (e : Int) ≤ (s.size : Int) := by omega
        have hxs : (s.extract p e).size ≤ 1099511627776 := by rw [ByteArray.size_extract]; omega
        clear he hz he2 hr2 hk2
        go_wp2_with (first | (go_at_call 22; refine (hexdig_impl _ _).mono ?_; rintro e1 wx ⟨rfl, rfl⟩) | (go_at_call 23; refine (parsehex_impl (s.extract p e) _ hxs).mono ?_; rintro e1 w1 ⟨xa, xc, rfl, hf, hb⟩))
        try go_wp2
        go_ret2
        exact bytesN_of HPR.out HE.out HP8.out hf hb rfl
    · have k1 : ¬ (k : Int) < (s.size : Int) := by omega
      have hks : k = s.size := by omega
      have hz := (show runH ((lst s).drop k) = 0 by rw [hks]; exact runH_end s)
      obtain ⟨e, he⟩ : ∃ e, e = p + (readH ((lst s).drop p)).2 := ⟨_, rfl⟩
      have hk2 : runH ((lst s).drop p) = k - p := by have := HI.out; omega
      have hr2 := HRR.out
      rw [hk2] at hr2
      have he2 : e = k - (k - p) % 2 := by omega
      have HPR := Lib.hid (parse_read2 (s := s) (p := p) he)
      have HP8 := Lib.hid (parse_read (s := s) (p := p) he)
      have HE : Hid ((e : Int) = ((p + (readH ((lst s).drop p)).2 : Nat) : Int)) := by show _ = _; omega
      have hte := tm_two hpk he2
      have hme : (k : Int) - ((k : Int) - (p : Int)) % 2 = (e : Int) := by omega
      have hke : p ≤ e := by omega
      have hke2 : e ≤ s.size := by omega
      have hke3 : (p : Int) ≤ (e : Int) := by omega
      have hke4 : (e : Int) ≤ (s.size : Int) := by omega
      have hxs : (s.extract p e).size ≤ 1099511627776 := by rw [ByteArray.size_extract]; omega
      clear he hz he2 hr2 hk2
      clear hks hlt hpk hk
      go_wp2_with (first | (go_at_call 23; refine (parsehex_impl (s.extract p e) _ hxs).mono ?_; rintro e1 w1 ⟨xa, xc, rfl, hf, hb⟩))
      try go_wp2
      go_ret2
      exact bytesN_of HPR.out HE.out HP8.out hf hb rfl
set_option maxRecDepth 100000 in
set_option maxHeartbeats 2000000 in
theorem hexread_impl (s : ByteArray) (n : Int) (w : World) (hs : s.size ≤ 1073741824) :
    Calls Tryd.prog 9 #[.string s, .int .i64 n] w (BytesNOut (hexRB s n) (hexRE s n) w) := by
  by_cases hn : 0 ≤ n ∧ n ≤ (s.size : Int)
  · obtain ⟨p, rfl⟩ : ∃ p : Nat, n = (p : Int) := ⟨n.toNat, by omega⟩
    obtain ⟨e1, e2⟩ := hexR_at (s := s) (p := p) (by omega)
    rw [e1, e2]
    exact hexread_implN s p w (by omega) hs
  · have e1 : hexRB s n = [] := by unfold hexRB; rw [if_neg hn]
    have e2 : hexRE s n = n := by unfold hexRE; rw [if_neg hn]
    have hin : decide ((0 : Int) ≤ n ∧ n ≤ (s.size : Int)) = false := decide_eq_false hn
    rw [e1, e2]
    go_enter Tryd.func9, Tryd.ntmps9
    go_wp2_with ((go_at_call 19; refine (inR_impl _ _ _ false _ hin).mono ?_; rintro e wx ⟨rfl, rfl⟩))
    try go_wp2
    go_ret2
    exact ⟨_, _, rfl, ⟨.inl rfl, Nat.le_refl _, (fun e => by cases e)⟩, (Below.refl _ _).alloc (Nat.le_refl _) _⟩
theorem hexRB_length (s : ByteArray) (n : Int) : (hexRB s n).length ≤ s.size := by
  unfold hexRB
  split
  · have h := (readH_unhex _ ((lst s).drop n.toNat) (Nat.le_refl _)).2
    rw [List.length_drop, lst_length] at h
    omega
  · exact Nat.zero_le _
end Go.Proofs.YtfdnfifmhfffnaaDoor
