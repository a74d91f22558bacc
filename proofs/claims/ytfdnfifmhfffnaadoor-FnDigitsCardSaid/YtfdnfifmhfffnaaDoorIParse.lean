/- Contract of the program's ParseHex. -/
import Derived.Test.YtfdnfifmhfffnaaDoorShelf
import Derived.Test.YtfdnfifmhfffnaaDoorISum
import Derived.Test.YtfdnfifmhfffnaaDoorParseHex
import Derived.Laws.MakeOwn
namespace Go.Proofs.YtfdnfifmhfffnaaDoor
open Go Go.RowKit
theorem idx_fin : ∀ c : Fin 256, Lib.indexByte [48, 49, 50, 51, 52, 53, 54, 55, 56, 57, 97, 98, 99, 100, 101, 102] (UInt8.ofNat c.val) = hexV (UInt8.ofNat c.val) := by decide +kernel
theorem idx_hex (c : UInt8) : Lib.indexByte [48, 49, 50, 51, 52, 53, 54, 55, 56, 57, 97, 98, 99, 100, 101, 102] c = hexV c := by
  have h := idx_fin ⟨c.toNat, c.toNat_lt⟩
  simpa using h
theorem hexdig_impl (c : UInt8) (w : World) : Calls Tryd.prog 22 #[.string ⟨#[48, 49, 50, 51, 52, 53, 54, 55, 56, 57, 97, 98, 99, 100, 101, 102]⟩, .int .u8 (c.toNat : Int)] w fun e w' => e = .returned (.int .i64 (hexV c)) ∧ w = w' := by
  refine (Tryd.strings_IndexByte _ _ w).mono ?_
  rintro e w' ⟨rfl, rfl⟩
  refine ⟨?_, rfl⟩
  have e1 : ((c.toNat : Int).toNat.toUInt8) = c := by simp
  rw [e1]
  exact ret_int (idx_hex c)
theorem make_cap (h : Nat) (hh : h ≤ 1099511627776) (W : World) : (Instr.makeSlice 22 (.int .i64 0) (.int .i64 (h : Int))).run Tryd.prog W = .ok (.slice (some ⟨W.heap.size, 0, none⟩) 0 h) (W.alloc (.cells (madeCells #[.int .u8 0] h) 5)) := by
  obtain ⟨i0, hi, hz0, hz1, hz2⟩ := infoParts
  have hr := run_make (P := Tryd.prog) W 22 5 i0 (.int .u8 0) Tryd.underlying22 hi hz0 .i64 .i64 0 (h : Int) (by omega) (by omega) (by rw [hz2]; omega) (by omega)
  rw [hr, hz1]
  simp [Value.cells]
theorem OwnB.made (w : World) (h : Nat) (hh : h ≤ 1099511627776) : OwnB w.heap.size (.slice (some ⟨w.heap.size, 0, none⟩) 0 h) [] (w.alloc (.cells (madeCells #[.int .u8 0] h) 5)) :=
  World.ownsRow_made w _ h (Nat.le_refl _) (by unfold maxLen; omega) (by simp [madeCells])
set_option maxRecDepth 100000 in
set_option maxHeartbeats 2000000 in
theorem parsehex_impl (s : ByteArray) (w : World) (hs : s.size ≤ 1099511627776) :
    Calls Tryd.prog 23 #[.string s] w (BytesOkOut (parseHexOf s.data.toList).1 (parseHexOf s.data.toList).2 w) := by
  obtain ⟨i0, hi, hz0, hz1, hz2⟩ := infoParts
  by_cases hodd : s.size % 2 = 1
  · have hn := Lib.hid (hex_none (w := w) (unhex_odd (s.size / 2) s.data.toList (by rw [bytes_len]; omega)) (Below.refl _ _))
    have g1 : (((s.size : Int) % 2) != 0) = true := by simp; omega
    clear hodd
    go_enter Tryd.func23, Tryd.ntmps23
    go_wp2
    go_ret2
    exact hn.out
  · have g1 : (((s.size : Int) % 2) != 0) = false := by simp; omega
    obtain ⟨h, hh⟩ : ∃ h : Nat, s.size = 2 * h := ⟨s.size / 2, by omega⟩
    have HH := Lib.hid hh
    have he1 : s.size ≤ 2 * h := by omega
    have he2 : 2 * h ≤ s.size := by omega
    have hq : (s.size : Int) / 2 = (h : Int) := by omega
    have hmk := make_cap h (by omega)
    clear hodd hh
    go_enter Tryd.func23, Tryd.ntmps23
    go_wp2_with fail
    clear g1 hmk hq
    go_loopw [4, 5, 6, 7] (fun v i _ _ W => RelX s w v i W) (fun _ i _ _ _ => s.size - (intOf i).toNat)
    case atStart => exact ⟨0, [], by omega, rfl, Nat.le_refl _, rfl, unhex_start _, OwnB.made w h (by omega), (Below.refl _ _).alloc (Nat.le_refl _) _⟩
    case round =>
      obtain ⟨p, acc, hp, hev, hal, rfl, hu, hown, hb⟩ := hrel
      have p0 : (0 : Int) ≤ (p : Int) := by omega
      by_cases hlt : p < s.size
      · have hlt1 : p + 1 < s.size := by have h1 := hev.out; have h2 := HH.out; omega
        have p1 : (p : Int) < (s.size : Int) := by omega
        have p2 : (p : Int) + 1 < (s.size : Int) := by omega
        have hu' := hu.out
        rw [drop_two s p hlt1] at hu'
        have HU := Lib.hid hu'
        have ba := hexV_bounds s[p]
        have bb := hexV_bounds s[p + 1]
        clear hu hu'
        go_wp2_with fail
        refine (hexdig_impl s[p] _).mono ?_
        rintro e w1 ⟨rfl, rfl⟩
        go_wp2_with fail
        refine (hexdig_impl s[p + 1] _).mono ?_
        rintro e w1 ⟨rfl, rfl⟩
        obtain ⟨a0, a1⟩ := ba
        obtain ⟨b0, b1⟩ := bb
        by_cases ha : 0 ≤ hexV s[p]
        · have ga : decide (hexV s[p] < 0) = false := by simp; omega
          by_cases hb2 : 0 ≤ hexV s[p + 1]
          · have gb : decide (hexV s[p + 1] < 0) = false := by simp; omega
            have HN := Lib.hid (unhex_step HU.out ha hb2)
            clear HU
            generalize hexV s[p] = x at *
            generalize hexV s[p + 1] = y at *
            have ho : bits .or .i64 (x * 16) y = x * 16 + y := or_hi _ _ 4 (by omega) (by omega) (by omega) (by omega) (by omega) (by omega)
            go_wp2_with (at_builtin; refine wpList_append_own _ rfl _ _ 22 rfl w.heap.size 5 i0 (.int .u8 0) 1 1 Tryd.underlying22 hi hz0 hz1 hz2 rfl (by decide) _ _ _ rfl (World.ownsRow.alloc hown.out _) ⟨wr.heap.size, 0, none⟩ 1 1 [.int .u8 (x * 16 + y)] rfl rfl ?c1 ?c2 ?c3 ?c4 ?c5 ?_)
            case c1 =>
              intro j u hj
              match j, hj with
              | 0, hj => simp at hj; subst hj; simp [Addr.add]
            case c2 => intro u hu; simp at hu; subst hu; rfl
            case c3 => unfold maxLen; omega
            case c4 => omega
            case c5 => have := hb.out.size; simp; omega
            · intro v' w2 hown' hgrow _
              rw [bv_of (x * 16 + y).toNat _ (by omega)] at hown'
              obtain ⟨R1, R2⟩ := ownB_push hown.out hb.out hown' hgrow
              have HR1 := Lib.hid R1
              have HR2 := Lib.hid R2
              clear hown' hgrow R1 R2
              go_wp2
              go_roundw
              case rel => exact ⟨p + 2, _, by omega, by have := hev.out; show (p + 2) % 2 = 0; omega, by simp; omega, by go_num, HN.out, HR1.out, HR2.out⟩
              case measure => simp [intOf]; omega
          · have gb : decide (hexV s[p + 1] < 0) = true := by simp; omega
            have HX := Lib.hid (hex_none (unhex_bad HU.out (fun h => hb2 h.2)) hb.out)
            go_wp2
            go_ret2
            exact HX.out
        · have ga : decide (hexV s[p] < 0) = true := by simp; omega
          have HX := Lib.hid (hex_none (unhex_bad HU.out (fun h => ha h.1)) hb.out)
          go_wp2
          go_ret2
          exact HX.out
      · have p1 : ¬ (p : Int) < (s.size : Int) := by omega
        go_wp2
        go_ret2
        exact hex_some (by omega) hu.out hown.out hb.out
end Go.Proofs.YtfdnfifmhfffnaaDoor
