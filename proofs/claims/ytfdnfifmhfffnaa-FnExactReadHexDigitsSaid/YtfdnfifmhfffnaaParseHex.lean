/- Contract of the model's ParseHex. -/
import Derived.Test.YtfdnfifmhfffnaaEndian
import Derived.Test.YtfdnfifmhfffnaaHex
namespace Go.Proofs.Ytfdnfifmhfffnaa
open Go Go.RowKit
/-- The value of a hexadecimal digit, -1 if it is none. -/
def hexV (c : UInt8) : Int := if 48 ≤ c.toNat ∧ c.toNat ≤ 57 then (c.toNat : Int) - 48 else if 97 ≤ c.toNat ∧ c.toNat ≤ 102 then (c.toNat : Int) - 87 else -1
theorem hexV_bounds (c : UInt8) : -1 ≤ hexV c ∧ hexV c ≤ 15 := by
  unfold hexV
  by_cases h1 : 48 ≤ c.toNat ∧ c.toNat ≤ 57
  · rw [if_pos h1]; omega
  · rw [if_neg h1]
    by_cases h2 : 97 ≤ c.toNat ∧ c.toNat ≤ 102
    · rw [if_pos h2]; omega
    · rw [if_neg h2]; omega
/-- The bytes of these digits. -/
def unhex : List UInt8 → Option (List UInt8)
  | [] => some []
  | [_] => none
  | a :: b :: r => if 0 ≤ hexV a ∧ 0 ≤ hexV b then (unhex r).map (UInt8.ofNat (hexV a * 16 + hexV b).toNat :: ·) else none
theorem dig_spec (c : UInt8) (w : World) : Calls Try.prog 35 #[.int .u8 (c.toNat : Int)] w fun e w' => e = .returned (.int .i64 (hexV c)) ∧ w = w' := by
  have hc := c.toNat_lt
  have hv : Hid (hexV c = if 48 ≤ c.toNat ∧ c.toNat ≤ 57 then (c.toNat : Int) - 48 else if 97 ≤ c.toNat ∧ c.toNat ≤ 102 then (c.toNat : Int) - 87 else -1) := rfl
  by_cases h1 : 48 ≤ c.toNat
  · by_cases h2 : c.toNat ≤ 57
    · have g1 : (48 : Int) ≤ (c.toNat : Int) := by omega
      have g2 : (c.toNat : Int) ≤ 57 := by omega
      go_enter Try.func35, Try.ntmps35
      go_wp2
      go_ret
      exact ⟨ret_int (by rw [hv.out, if_pos ⟨h1, h2⟩]), rfl⟩
    · have g1 : (48 : Int) ≤ (c.toNat : Int) := by omega
      have g2 : ¬ (c.toNat : Int) ≤ 57 := by omega
      by_cases h3 : 97 ≤ c.toNat
      · have g3 : (97 : Int) ≤ (c.toNat : Int) := by omega
        by_cases h4 : c.toNat ≤ 102
        · have g4 : (c.toNat : Int) ≤ 102 := by omega
          go_enter Try.func35, Try.ntmps35
          go_wp2
          go_ret
          exact ⟨ret_int (by rw [hv.out, if_neg (by omega), if_pos ⟨h3, h4⟩]; omega), rfl⟩
        · have g4 : ¬ (c.toNat : Int) ≤ 102 := by omega
          go_enter Try.func35, Try.ntmps35
          go_wp2
          go_ret
          exact ⟨ret_int (by rw [hv.out, if_neg (by omega), if_neg (by omega)]), rfl⟩
      · have g3 : ¬ (97 : Int) ≤ (c.toNat : Int) := by omega
        go_enter Try.func35, Try.ntmps35
        go_wp2
        go_ret
        exact ⟨ret_int (by rw [hv.out, if_neg (by omega), if_neg (by omega)]), rfl⟩
  · have g1 : ¬ (48 : Int) ≤ (c.toNat : Int) := by omega
    have g3 : ¬ (97 : Int) ≤ (c.toNat : Int) := by omega
    go_enter Try.func35, Try.ntmps35
    go_wp2
    go_ret
    exact ⟨ret_int (by rw [hv.out, if_neg (by omega), if_neg (by omega)]), rfl⟩
/-- New bytes and a bool come back. -/
def BytesOkOut (bs : List UInt8) (ok : Bool) (w : World) (e : Ending) (w' : World) : Prop :=
  ∃ a cap, e = .returned (.tuple #[.slice a bs.length cap, .bool ok]) ∧ Row w.heap.size a bs cap w' ∧ Below w.heap.size w w'
/-- What ParseHex gives. -/
def parseHexOf (l : List UInt8) : List UInt8 × Bool := match unhex l with
  | some bs => (bs, true)
  | none => ([], false)
theorem unhex_odd : ∀ (n : Nat) (l : List UInt8), l.length = 2 * n + 1 → unhex l = none
  | 0, l, h => by
    match l, h with
    | [a], _ => rfl
  | n + 1, l, h => by
    match l, h with
    | a :: b :: r, h =>
      have hr := unhex_odd n r (by simp at h; omega)
      simp [unhex, hr]
theorem bytes_len (s : ByteArray) : s.data.toList.length = s.size := by show s.data.toList.length = s.data.size; simp
/-- What holds at the head of a round. -/
def RelX (s : ByteArray) (w : World) (v i : Value) (W : World) : Prop :=
  ∃ (p : Nat) (acc : List UInt8), p ≤ s.size ∧ Hid (p % 2 = 0) ∧ acc.length ≤ p ∧ i = .int .i64 (p : Int) ∧ Hid (unhex s.data.toList = (unhex (s.data.toList.drop p)).map (acc ++ ·)) ∧ Hid (OwnB w.heap.size v acc W) ∧ Hid (Below w.heap.size w W)
theorem unhex_start (l : List UInt8) : unhex l = (unhex (l.drop 0)).map ([] ++ ·) := by
  simp only [List.drop_zero, List.nil_append]
  cases unhex l <;> rfl
theorem hex_some {s : ByteArray} {acc : List UInt8} {v : Value} {w W : World} {p : Nat} (hp : s.size ≤ p) (h : unhex s.data.toList = (unhex (s.data.toList.drop p)).map (acc ++ ·)) (hown : OwnB w.heap.size v acc W) (hb : Below w.heap.size w W) :
    BytesOkOut (parseHexOf s.data.toList).1 (parseHexOf s.data.toList).2 w (.returned (.tuple #[v, .bool true])) W := by
  rw [List.drop_of_length_le (by rw [bytes_len]; exact hp)] at h
  have e : unhex s.data.toList = some acc := by rw [h]; simp [unhex]
  unfold parseHexOf
  rw [e]
  obtain ⟨a, cap, rfl, hf⟩ := hown.row
  exact ⟨a, cap, rfl, hf, hb⟩
theorem ownB_push {x : UInt8} {acc : List UInt8} {v v' : Value} {w W W2 : World} {o : Obj} (hown : OwnB w.heap.size v acc W) (hb : Below w.heap.size w W)
    (hown' : W2.ownsRow w.heap.size 5 1 v' (acc.length + 1) (acc.map bv ++ [bv x])) (hg : (W.alloc o).grownBy W2 v.ownBlock) : OwnB w.heap.size v' (acc ++ [x]) W2 ∧ Below w.heap.size w W2 := by
  refine ⟨?_, ?_⟩
  · unfold OwnB; simpa using hown'
  · exact (hb.alloc hb.size o).grown hg (by have := hb.size; simp; omega) fun k hk => (World.ownsRow.lt (w := W) hown k hk).1
theorem drop_two (s : ByteArray) (k : Nat) (h : k + 1 < s.size) : s.data.toList.drop k = s[k] :: s[k + 1] :: s.data.toList.drop (k + 2) := by
  have h1 : k < s.data.toList.length := by rw [bytes_len]; omega
  have h2 : k + 1 < s.data.toList.length := by rw [bytes_len]; omega
  rw [List.drop_eq_getElem_cons h1, List.drop_eq_getElem_cons h2]
  rfl
theorem unhex_step {l r acc : List UInt8} {a b : UInt8} (h : unhex l = (unhex (a :: b :: r)).map (acc ++ ·)) (ha : 0 ≤ hexV a) (hb : 0 ≤ hexV b) :
    unhex l = (unhex r).map ((acc ++ [UInt8.ofNat (hexV a * 16 + hexV b).toNat]) ++ ·) := by
  rw [h, unhex, if_pos ⟨ha, hb⟩]
  cases unhex r <;> simp
theorem unhex_bad {l r acc : List UInt8} {a b : UInt8} (h : unhex l = (unhex (a :: b :: r)).map (acc ++ ·)) (hn : ¬ (0 ≤ hexV a ∧ 0 ≤ hexV b)) : unhex l = none := by
  rw [h, unhex, if_neg hn]; rfl
theorem hex_none {s : ByteArray} {w W : World} (h : unhex s.data.toList = none) (hb : Below w.heap.size w W) :
    BytesOkOut (parseHexOf s.data.toList).1 (parseHexOf s.data.toList).2 w (.returned (.tuple #[.slice (some ⟨W.heap.size, 0, none⟩) 0 0, .bool false])) (W.alloc (.cells #[] 5)) := by
  unfold parseHexOf
  rw [h]
  exact ⟨_, _, rfl, ⟨.inl rfl, Nat.le_refl _, (fun e => by cases e)⟩, hb.alloc hb.size _⟩
set_option maxRecDepth 100000 in
set_option maxHeartbeats 2000000 in
theorem parsehex_spec (s : ByteArray) (w : World) (hs : s.size ≤ 1099511627776) :
    Calls Try.prog 36 #[.string s] w (BytesOkOut (parseHexOf s.data.toList).1 (parseHexOf s.data.toList).2 w) := by
  obtain ⟨i0, hi, hz0, hz1, hz2⟩ := infoParts
  by_cases hodd : s.size % 2 = 1
  · have hn := Lib.hid (hex_none (w := w) (unhex_odd (s.size / 2) s.data.toList (by rw [bytes_len]; omega)) (Below.refl _ _))
    have g1 : (((s.size : Int) % 2) != 0) = true := by simp; omega
    clear hodd
    go_enter Try.func36, Try.ntmps36
    go_wp2
    go_ret2
    exact hn.out
  · have g1 : (((s.size : Int) % 2) != 0) = false := by simp; omega
    obtain ⟨h, hh⟩ : ∃ h : Nat, s.size = 2 * h := ⟨s.size / 2, by omega⟩
    have HH := Lib.hid hh
    have he1 : s.size ≤ 2 * h := by omega
    have he2 : 2 * h ≤ s.size := by omega
    clear hodd hh
    go_enter Try.func36, Try.ntmps36
    go_wp2
    clear g1
    go_loopw [4, 5, 6, 7] (fun v i _ _ W => RelX s w v i W) (fun _ i _ _ _ => s.size - (intOf i).toNat)
    case atStart => exact ⟨0, [], by omega, rfl, Nat.le_refl _, rfl, unhex_start _, OwnB.start w, (Below.refl _ _).alloc (Nat.le_refl _) _⟩
    case round =>
      obtain ⟨p, acc, hp, hev, hal, rfl, hu, hown, hb⟩ := hrel
      have p0 : (0 : Int) ≤ (p : Int) := by omega
      by_cases hlt : p < s.size
      · have hlt1 : p + 1 < s.size := by have h1 := hev.out; have h2 := HH.out; omega
        have p1 : (p : Int) < (s.size : Int) := by omega
        have p2 : (p : Int) + 1 < (s.size : Int) := by omega
        have hu' := hu.out
        rw [drop_two s p hlt1] at hu'
        have HU := Lib.hid hu'
        have ba := hexV_bounds s[p]
        have bb := hexV_bounds s[p + 1]
        clear hu hu'
        go_wp2_with fail
        refine (dig_spec s[p] _).mono ?_
        rintro e w1 ⟨rfl, rfl⟩
        go_wp2_with fail
        refine (dig_spec s[p + 1] _).mono ?_
        rintro e w1 ⟨rfl, rfl⟩
        obtain ⟨a0, a1⟩ := ba
        obtain ⟨b0, b1⟩ := bb
        by_cases ha : 0 ≤ hexV s[p]
        · have ga : decide (hexV s[p] < 0) = false := by simp; omega
          by_cases hb2 : 0 ≤ hexV s[p + 1]
          · have gb : decide (hexV s[p + 1] < 0) = false := by simp; omega
            have HN := Lib.hid (unhex_step HU.out ha hb2)
            clear HU
            generalize hexV s[p] = x at *
            generalize hexV s[p + 1] = y at *
            go_wp2_with (at_builtin; refine wpList_append_own _ rfl _ _ 25 rfl w.heap.size 5 i0 (.int .u8 0) 1 1 Try.underlying25 hi hz0 hz1 hz2 rfl (by decide) _ _ _ rfl (World.ownsRow.alloc hown.out _) ⟨wr.heap.size, 0, none⟩ 1 1 [.int .u8 (x * 16 + y)] rfl rfl ?c1 ?c2 ?c3 ?c4 ?c5 ?_)
            case c1 =>
              intro j u hj
              match j, hj with
              | 0, hj => simp at hj; subst hj; simp [Addr.add]
            case c2 => intro u hu; simp at hu; subst hu; rfl
            case c3 => unfold maxLen; omega
            case c4 => omega
            case c5 => have := hb.out.size; simp; omega
            · intro v' w2 hown' hgrow _
              rw [bv_of (x * 16 + y).toNat _ (by omega)] at hown'
              obtain ⟨R1, R2⟩ := ownB_push hown.out hb.out hown' hgrow
              have HR1 := Lib.hid R1
              have HR2 := Lib.hid R2
              clear hown' hgrow R1 R2
              go_wp2
              go_roundw
              case rel => exact ⟨p + 2, _, by omega, by have := hev.out; show (p + 2) % 2 = 0; omega, by simp; omega, by go_num, HN.out, HR1.out, HR2.out⟩
              case measure => simp [intOf]; omega
          · have gb : decide (hexV s[p + 1] < 0) = true := by simp; omega
            have HX := Lib.hid (hex_none (unhex_bad HU.out (fun h => hb2 h.2)) hb.out)
            go_wp2
            go_ret2
            exact HX.out
        · have ga : decide (hexV s[p] < 0) = true := by simp; omega
          have HX := Lib.hid (hex_none (unhex_bad HU.out (fun h => ha h.1)) hb.out)
          go_wp2
          go_ret2
          exact HX.out
      · have p1 : ¬ (p : Int) < (s.size : Int) := by omega
        go_wp2
        go_ret2
        exact hex_some (by omega) hu.out hown.out hb.out
theorem unhex_length : ∀ (n : Nat) (l bs : List UInt8), l.length ≤ n → unhex l = some bs → bs.length ≤ l.length
  | _, [], bs, _, h => by
    simp only [unhex, Option.some.injEq] at h
    subst h; simp
  | _, [_], bs, _, h => by simp [unhex] at h
  | 0, a :: b :: r, bs, hn, h => by simp at hn
  | n + 1, a :: b :: r, bs, hn, h => by
    rw [unhex] at h
    by_cases hab : 0 ≤ hexV a ∧ 0 ≤ hexV b
    · rw [if_pos hab] at h
      cases hr : unhex r with
      | none => simp [hr] at h
      | some cs =>
        have := unhex_length n r cs (by simp at hn; omega) hr
        simp only [hr, Option.map_some, Option.some.injEq] at h
        subst h
        simp; omega
    · rw [if_neg hab] at h; cases h
theorem parseHexOf_length (s : ByteArray) : (parseHexOf s.data.toList).1.length ≤ s.size := by
  unfold parseHexOf
  cases h : unhex s.data.toList with
  | none => simp
  | some bs =>
    have := unhex_length _ _ _ (Nat.le_refl _) h
    rw [bytes_len] at this
    exact this
end Go.Proofs.Ytfdnfifmhfffnaa
