/- Contracts of the model's l6Kids, l6Tags and l6Pairs. The contract of the model's l6Pairs. What the words of a line say of the rule that it means: plain facts for the model's l6Args, and how a rule's cells are kept. -/
import Derived.Test.YtndjefednfcmmaaGreatDoorGFnd
import Derived.Test.YtndjefednfcmmaaGreatDoorGPar
import Derived.Test.YtndjefednfcmmaaGreatDoorGLin
import Derived.Test.YtndjefednfcmmaaGreatDoorPushF
import Derived.Test.YtndjefednfcmmaaGreatDoorGTxt
import Derived.Test.YtndjefednfcmmaaGreatDoorGWr
import Derived.Deep.RegionHeld3
import Derived.Deep.CutRange
import Derived.Test.YtndjefednfcmmaaGreatDoorGRdA
import Derived.Test.YtndjefednfcmmaaGreatDoorGCopy
set_option maxRecDepth 100000
namespace Go.Proofs.YtndjefednfcmmaaGreatDoor
open Go Go.RowKit
theorem pint_spec (s : ByteArray) (w : World) (hs : s.size ≤ 1048576) :
  Calls Tryz.prog 124 #[.string s] w fun e w' => ∃ (n : Nat) (ok : Bool), e = .returned (.tuple #[.int .i64 (n : Int), .bool ok]) ∧ n ≤ 1000000000000 ∧ (∀ m, Spells s m → n = m ∧ ok = true) ∧ Below w.heap.size w w' := by
 by_cases h : ∃ n, Spells s n
 ·obtain ⟨n, hn⟩ := h
  refine (parse_spec_yes s n w hn).mono ?_
  rintro e w' ⟨rfl, hb⟩
  exact ⟨n, true, rfl, hn.1, fun m hm => ⟨spells_unique hn hm, rfl⟩, hb⟩
 ·refine (parse_spec_no s w (fun n hn => h ⟨n, hn⟩) (by omega)).mono ?_
  rintro e w' ⟨rfl, hb⟩
  exact ⟨0, false, rfl, by omega, fun m hm => absurd ⟨m, hm⟩ h, hb⟩
def IntsWant (N : Nat) (want : List Int → Prop) (w : World) (e : Ending) (w' : World) : Prop :=
 ∃ (v : Option Addr) (ks : List Int) (c : Nat) (ok : Bool), e = .returned (.tuple #[.slice v ks.length c, .bool ok]) ∧ RowF (Value.int .i64) w.heap.size v ks c w' ∧ Below w.heap.size w w' ∧ ks.length ≤ N ∧ ∀ qs, want qs → ks = qs ∧ ok = true
def TagsW (ss : List ByteArray) (qs : List Int) : Prop := qs.length = ss.length ∧ ∀ j (hj : j < ss.length) (hq : j < qs.length), ∃ n : Nat, Spells ss[j] n ∧ qs[j] = (n : Int)
theorem TagsW.next {ss : List ByteArray} {acc : List Int} {k : Nat} (hk : k < ss.length) {n : Nat} {ok : Bool} (hn : ∀ m, Spells ss[k] m → n = m ∧ ok = true) (ha : ∀ qs, TagsW ss qs → acc = qs.take k) (qs : List Int) (hq : TagsW ss qs) : acc ++ [(n : Int)] = qs.take (k + 1) ∧ ok = true := by
 have hlq : k < qs.length := by rw [hq.1]; exact hk
 obtain ⟨m, hm, he⟩ := hq.2 k hk hlq
 obtain ⟨rfl, ho⟩ := hn m hm
 refine ⟨?_, ho⟩
 rw [ha qs hq, List.take_succ_eq_append_getElem hlq, he]
set_option maxHeartbeats 2000000 in
theorem tags_of_spec (a : Option Addr) (ss : List ByteArray) (cap : Nat) (w : World) (hl : ss.length ≤ 1048576) (hz : ∀ s ∈ ss, s.size ≤ 1048576) (h : RdS a ss w) :
  Calls Tryz.prog 128 #[.slice a ss.length cap] w (IntsWant ss.length (TagsW ss) w) := by
 have H := Lib.hid h
 have HZ := Lib.hid hz
 clear h hz
 go_enter Tryz.func128, Tryz.ntmps128
 go_wp2
 go_loopw [4, 5, 6, 7] (fun v i _ _ W => ∃ (k : Nat) (zs : List Int) (v0 : Value), k ≤ ss.length ∧ i = .int .i64 k ∧ v0 = v ∧ Hid (W.ownsRow w.heap.size 3 1 v0 zs.length (zs.map (Value.int .i64))) ∧ Hid (∀ qs, TagsW ss qs → zs = qs.take k) ∧ zs.length = k ∧ Hid (Below w.heap.size w W)) (fun _ i _ _ _ => ss.length - (intOf i).toNat)
 case atStart =>
  refine ⟨0, [], _, Nat.zero_le _, rfl, rfl, ?_, (fun qs _ => by simp), rfl, (Below.refl _ _).alloc (Nat.le_refl _) _⟩
  exact World.ownsRow_made w #[] 0 (Nat.le_refl _) (Nat.zero_le _) rfl
 case round =>
  obtain ⟨k, zs, v0, hk, rfl, rfl, ho, hin, hlen, hbw⟩ := hrel
  have k0 : (0 : Int) ≤ (k : Int) := by omega
  by_cases hlt : k < ss.length
  ·have k1 : (k : Int) < (ss.length : Int) := by omega
   obtain ⟨b, off, rfl, hc0⟩ := H.out k hlt
   have hc : wr.cell? ⟨b, off + k, none⟩ = some (.string ss[k]) := (hbw.out.cell (cell_lt hc0)).trans hc0
   have hzk : ss[k].size ≤ 1048576 := HZ.out _ (List.getElem_mem hlt)
   have HN := fun n ok hn => Lib.hid (TagsW.next (n := n) (ok := ok) hlt hn hin.out)
   clear hc0
   generalize ss[k] = x at hc hzk HN
   go_wp2_with (go_at_call 124; refine (pint_spec x _ hzk).mono ?_)
   rintro e w1 ⟨n, ok, rfl, hn, hw, hb1⟩
   replace HN := Lib.hid (HN n ok hw)
   have hb2 := Lib.hid (hbw.out.trans (hb1.mono hbw.out.size))
   have ho1 := Lib.hid (own_keep ho.out (row := none) ⟨hb1.os, hb1.tape, hb1.output, hb1.size, fun k hk _ => hb1.block k hk⟩ (fun _ _ => by simp))
   clear hb1 hc hw ho
   cases ok
   ·obtain ⟨y, c, rfl, hrow⟩ := own_row (f := Value.int .i64) ho1.out
    have HR := Lib.hid hrow
    clear hrow ho1
    go_wp2
    go_ret2
    exact ⟨_, zs, c, false, by rw [hlen]; rfl, HR.out, hb2.out, by omega, fun qs hq => absurd (HN.out qs hq).2 (by simp)⟩
   ·go_wp2_with (at_builtin; refine wp_pushF (f := Value.int .i64) 57 3 (.int .i64 0) 8 Tryz.underlying57 infoInt rfl rfl (.tmp 26) (.tmp 28) rfl w.heap.size v0 zs (n : Int) rfl w1 (by simp [Act.eval]) (by simp [Act.eval]) ho1.out (by unfold maxLen; omega) (by omega) hb2.out.size ?_)
    intro v' w' hown hgrow _
    have ho2 : Hid (w'.ownsRow w.heap.size 3 1 v' (zs ++ [(n : Int)]).length ((zs ++ [(n : Int)]).map (Value.int .i64))) := by show World.ownsRow _ _ _ _ _ _ _; simpa [hlen] using hown
    have hb3 := Lib.hid (hb2.out.grown hgrow hb2.out.size fun g hg => (World.ownsRow.lt (w := w1) ho1.out g hg).1)
    clear hown hgrow
    go_wp2
    go_roundw
    case rel => exact ⟨k + 1, zs ++ [(n : Int)], v', by omega, by go_num, rfl, ho2, (fun qs hq => (HN.out qs hq).1), by simp [hlen], hb3⟩
    case measure => simp [intOf]; omega
  ·have k1 : ¬ (k : Int) < (ss.length : Int) := by omega
   obtain rfl : k = ss.length := by omega
   obtain ⟨x, c, rfl, hrow⟩ := own_row (f := Value.int .i64) ho.out
   have HR := Lib.hid hrow
   clear hrow ho
   go_wp2
   go_ret2
   exact ⟨_, zs, c, true, by rw [hlen]; rfl, HR.out, hbw.out, by omega, fun qs hq => ⟨by rw [hin.out qs hq, ← hq.1, List.take_length], rfl⟩⟩
def KidsW (rs : List RuleV) (ss : List ByteArray) (qs : List Int) : Prop := qs.length = ss.length ∧ ∀ j (hj : j < ss.length) (hq : j < qs.length), kidB ss[j] rs = true ∧ qs[j] = kidI ss[j] rs
theorem KidsW.next {rs : List RuleV} {ss : List ByteArray} {acc : List Int} {k : Nat} (hk : k < ss.length) (ha : ∀ qs, KidsW rs ss qs → acc = qs.take k) (qs : List Int) (hq : KidsW rs ss qs) : acc ++ [kidI ss[k] rs] = qs.take (k + 1) ∧ kidB ss[k] rs = true := by
 have hlq : k < qs.length := by rw [hq.1]; exact hk
 obtain ⟨hm, he⟩ := hq.2 k hk hlq
 refine ⟨?_, hm⟩
 rw [ha qs hq, List.take_succ_eq_append_getElem hlq, he]
set_option maxHeartbeats 2000000 in
theorem kids_of_spec (a : Option Addr) (rs : List RuleV) (cap : Nat) (a1 : Option Addr) (ss : List ByteArray) (cap1 : Nat) (w : World) (hrl : rs.length ≤ 1073741824) (hl : ss.length ≤ 1048576) (hr : RdR a rs w) (h : RdS a1 ss w) :
  Calls Tryz.prog 127 #[.agg #[.slice a rs.length cap], .slice a1 ss.length cap1] w (IntsWant ss.length (KidsW rs ss) w) := by
 obtain ⟨w0, hw0⟩ : ∃ w0, w0 = w.alloc (.cells #[.slice a rs.length cap] 26) := ⟨_, rfl⟩
 have hB0 : Below w.heap.size w w0 := by subst hw0; exact (Below.refl _ _).alloc (Nat.le_refl _) _
 have hX0 : CellsAt w.heap.size [.slice a rs.length cap] w0 := by subst hw0; exact CellsAt.new w _ _
 have HB0 := Lib.hid hB0
 have HX0 := Lib.hid hX0
 have HR := Lib.hid (hr.below hB0)
 have H := Lib.hid (h.below hB0)
 have hs0 : Hid (w0.heap.size = w.heap.size + 1) := by subst hw0; exact World.size_alloc _ _
 have hW := Lib.hid hw0
 clear h hr hB0 hX0 hw0
 go_enter Tryz.func127, Tryz.ntmps127
 go_wp2
 rw [← hW.out]
 go_loopw [6, 7, 8, 9] (fun v i _ _ W => ∃ (k : Nat) (zs : List Int) (v0 : Value), k ≤ ss.length ∧ i = .int .i64 k ∧ v0 = v ∧ Hid (W.ownsRow w0.heap.size 3 1 v0 zs.length (zs.map (Value.int .i64))) ∧ Hid (∀ qs, KidsW rs ss qs → zs = qs.take k) ∧ zs.length = k ∧ Hid (Below w0.heap.size w0 W)) (fun _ i _ _ _ => ss.length - (intOf i).toNat)
 case atStart =>
  refine ⟨0, [], _, Nat.zero_le _, rfl, rfl, ?_, (fun qs _ => by simp), rfl, (Below.refl _ _).alloc (Nat.le_refl _) _⟩
  have hz : w0.heap.size = w.heap.size + 1 := hs0.out
  rw [← hz]
  exact World.ownsRow_made w0 #[] 0 (Nat.le_refl _) (Nat.zero_le _) rfl
 case round =>
  obtain ⟨k, zs, v0, hk, rfl, rfl, ho, hin, hlen, hbw⟩ := hrel
  have k0 : (0 : Int) ≤ (k : Int) := by omega
  have HX := Lib.hid (HX0.out.below hbw.out)
  by_cases hlt : k < ss.length
  ·have k1 : (k : Int) < (ss.length : Int) := by omega
   obtain ⟨b, off, rfl, hc0⟩ := H.out k hlt
   have HC := Lib.hid ((hbw.out.cell (cell_lt hc0)).trans hc0)
   have HN := Lib.hid (KidsW.next hlt hin.out)
   have HRR := Lib.hid (HR.out.below hbw.out)
   clear hc0
   generalize ss[k] = x at HC HN
   go_wp2
   replace HX : Hid (CellsAt w.heap.size [.slice a rs.length cap] wr.drew) := HX.out
   replace HRR : Hid (RdR a rs wr.drew) := HRR.out
   replace HC : Hid (wr.drew.cell? ⟨b, off + k, none⟩ = some (.string x)) := HC.out
   replace hbw : Hid (Below w0.heap.size w0 wr.drew) := below_drewN hbw.out 1
   replace ho : Hid (wr.drew.ownsRow w0.heap.size 3 1 v0 zs.length (zs.map (Value.int .i64))) := World.ownsRow.drew ho.out
   go_region_held3 (fun W => W.cell? ⟨w.heap.size, 0, none⟩ = some (.slice a rs.length cap) ∧ W.cell? ⟨b, off + k, none⟩ = some (.string x)) (exact ⟨(HX.out 0 _ rfl).1, HC.out⟩) (first | (go_at_call 144; refine (pkid_spec a rs cap x _ hrl HRR.out).mono ?_; rintro e w1 ⟨rfl, hb1⟩; replace HC := Lib.hid ((hb1.cell (cell_lt HC.out)).trans HC.out); replace HX := Lib.hid (HX.out.below hb1); replace ho := Lib.hid (own_keep ho.out (row := none) ⟨hb1.os, hb1.tape, hb1.output, hb1.size, fun k hk _ => hb1.block k hk⟩ (fun _ _ => by simp)); replace hbw := Lib.hid (hbw.out.trans (hb1.mono hbw.out.size)); clear hb1))
   all_goals (
    clear HC HX HRR
    generalize kidI x rs = n at *
    rcases hkb : kidB x rs with _ | _)
   all_goals first
    | (
     obtain ⟨y, c, rfl, hrow⟩ := own_row (f := Value.int .i64) ho.out
     have HROW := Lib.hid (hrow.more (B' := w.heap.size) (by have := hs0.out; omega))
     have HBW := Lib.hid (HB0.out.trans (hbw.out.mono HB0.out.size))
     clear hrow ho
     go_wp2
     go_ret2
     exact ⟨_, zs, c, false, by rw [hlen]; rfl, HROW.out, HBW.out, by omega, fun qs hq => absurd (HN.out qs hq).2 (by simp [hkb])⟩)
    | (
     rename_i w1 _
     go_wp2_with (at_builtin; refine wp_pushF (f := Value.int .i64) 57 3 (.int .i64 0) 8 Tryz.underlying57 infoInt rfl rfl (.tmp 29) (.tmp 31) rfl w0.heap.size v0 zs n rfl _ (by simp [Act.eval]) (by simp [Act.eval]) ho.out (by unfold maxLen; omega) (by omega) hbw.out.size ?_)
     intro v' w' hown hgrow _
     have ho2 : Hid (w'.ownsRow w0.heap.size 3 1 v' (zs ++ [n]).length ((zs ++ [n]).map (Value.int .i64))) := by show World.ownsRow _ _ _ _ _ _ _; simpa [hlen] using hown
     have hb3 := Lib.hid (hbw.out.grown hgrow hbw.out.size fun g hg => (World.ownsRow.lt ho.out g hg).1)
     clear hown hgrow
     go_wp2
     go_roundw
     case rel => exact ⟨k + 1, zs ++ [n], v', by omega, by go_num, rfl, ho2, (fun qs hq => (HN.out qs hq).1), by simp [hlen], hb3⟩
     case measure => simp [intOf]; omega)
  ·have k1 : ¬ (k : Int) < (ss.length : Int) := by omega
   obtain rfl : k = ss.length := by omega
   obtain ⟨x, c, rfl, hrow⟩ := own_row (f := Value.int .i64) ho.out
   have HROW := Lib.hid (hrow.more (B' := w.heap.size) (by have := hs0.out; omega))
   have HBW := Lib.hid (HB0.out.trans (hbw.out.mono HB0.out.size))
   clear hrow ho
   go_wp2
   go_ret2
   exact ⟨_, zs, c, true, by rw [hlen]; rfl, HROW.out, HBW.out, by omega, fun qs hq => ⟨by rw [hin.out qs hq, ← hq.1, List.take_length], rfl⟩⟩
def PairsOut (ws : List ByteArray) (w : World) (e : Ending) (w' : World) : Prop :=
 ∃ (va vb : Option Addr) (al bs : List ByteArray) (ca cb : Nat) (ok : Bool), e = .returned (.tuple #[.slice va al.length ca, .slice vb bs.length cb, .bool ok]) ∧ RowF Value.string w.heap.size va al ca w' ∧ RowF Value.string w.heap.size vb bs cb w' ∧ Below w.heap.size w w' ∧ al.length ≤ ws.length ∧ bs.length ≤ ws.length ∧ (∀ s ∈ al, s.size ≤ 1048576) ∧ (∀ s ∈ bs, s.size ≤ 1048576) ∧ ((∀ s ∈ ws, cutK 58 s = true) → al = ws.map (cutA 58) ∧ bs = ws.map (cutB 58) ∧ ok = true)
def Dis (v v' : Value) : Prop := ∀ g, v.ownBlock = some g → v'.ownBlock ≠ some g
theorem Dis.symm {v v' : Value} (h : Dis v v') : Dis v' v := fun g h1 h2 => h g h2 h1
theorem Dis.push {v v' u : Value} {N : Nat} (h : Dis v v') (hw : u.ownBlock = v.ownBlock ∨ ∃ g, u.ownBlock = some g ∧ N ≤ g) (hlt : ∀ g, v'.ownBlock = some g → g < N) : Dis u v' := fun g h1 h2 => by
 rcases hw with e | ⟨k, e, hk⟩
 ·exact h g (by rw [← e]; exact h1) h2
 ·rw [h1] at e; injection e with e; subst e; have := hlt g h2; omega
theorem mapTake_next {f : ByteArray → ByteArray} {ws al : List ByteArray} {k : Nat} (hk : k < ws.length) (h : al = (ws.take k).map f) : al ++ [f ws[k]] = (ws.take (k + 1)).map f := by
 rw [h, List.take_succ_eq_append_getElem hk, List.map_append]; rfl
theorem mapTake_le {f : ByteArray → ByteArray} {ws al : List ByteArray} {k N : Nat} (hf : ∀ s, (f s).size ≤ s.size) (hz : ∀ s ∈ ws, s.size ≤ N) (h : al = (ws.take k).map f) : ∀ s ∈ al, s.size ≤ N := fun s hs => by
 rw [h] at hs
 obtain ⟨x, hx, rfl⟩ := List.mem_map.1 hs
 exact Nat.le_trans (hf x) (hz x (List.mem_of_mem_take hx))
set_option maxHeartbeats 4000000 in
theorem pairs_spec (a : Option Addr) (ws : List ByteArray) (cap : Nat) (w : World) (hl : ws.length ≤ 1048576) (hz : ∀ s ∈ ws, s.size ≤ 1048576) (h : RdS a ws w) :
  Calls Tryz.prog 126 #[.slice a ws.length cap] w (PairsOut ws w) := by
 have H := Lib.hid h
 have HZ := Lib.hid hz
 clear h hz
 go_enter Tryz.func126, Tryz.ntmps126
 go_wp2
 go_loopw [5, 6, 7, 8, 9, 10] (fun va vb i _ _ _ W => ∃ (k : Nat) (al bs : List ByteArray) (v0 v1 : Value), k ≤ ws.length ∧ i = .int .i64 k ∧ v0 = va ∧ v1 = vb ∧ Hid (W.ownsRow w.heap.size 9 1 v0 al.length (al.map Value.string)) ∧ Hid (W.ownsRow w.heap.size 9 1 v1 bs.length (bs.map Value.string)) ∧ Hid (al = (ws.take k).map (cutA 58)) ∧ Hid (bs = (ws.take k).map (cutB 58)) ∧ al.length = k ∧ bs.length = k ∧ Hid (Dis v0 v1) ∧ Hid (Below w.heap.size w W)) (fun _ _ i _ _ _ _ => ws.length - (intOf i).toNat)
 case atStart =>
  refine ⟨0, [], [], _, _, Nat.zero_le _, rfl, rfl, rfl, ?_, ?_, rfl, rfl, rfl, rfl, ?_, ((Below.refl _ _).alloc (Nat.le_refl _) _).alloc (by simp) _⟩
  ·exact World.ownsRow.alloc (World.ownsRow_made w #[] 0 (Nat.le_refl _) (Nat.zero_le _) rfl) _
  ·have q := World.ownsRow_made (base := w.heap.size) (e := 9) (size := 1) (w.alloc (.cells #[] 9)) #[] 0 (by simp) (Nat.zero_le _) rfl
   show World.ownsRow _ _ _ _ _ _ _
   simpa using q
  ·intro g h1 h2
   simp [Value.ownBlock] at h1 h2
   omega
 case round =>
  obtain ⟨k, al, bs, v0, v1, hk, rfl, rfl, rfl, ho, hp, has, hbs, hla, hlb, hd, hbw⟩ := hrel
  have k0 : (0 : Int) ≤ (k : Int) := by omega
  by_cases hlt : k < ws.length
  ·have k1 : (k : Int) < (ws.length : Int) := by omega
   obtain ⟨b, off, rfl, hc0⟩ := H.out k hlt
   have hc : wr.cell? ⟨b, off + k, none⟩ = some (.string ws[k]) := (hbw.out.cell (cell_lt hc0)).trans hc0
   have hzk : ws[k].size ≤ 1048576 := HZ.out _ (List.getElem_mem hlt)
   have HA := Lib.hid (mapTake_next hlt has.out)
   have HBB := Lib.hid (mapTake_next hlt hbs.out)
   have HK : Hid ((∀ s ∈ ws, cutK 58 s = true) → cutK 58 ws[k] = true) := fun h => h _ (List.getElem_mem hlt)
   clear hc0
   generalize ws[k] = x at hc hzk HA HBB HK
   have hcut : ∀ W, Calls Tryz.prog 143 #[.string x, .int .u8 58] W fun e w' => e = .returned (.tuple #[.string (cutA 58 x), .string (cutB 58 x), .bool (cutK 58 x)]) ∧ ∃ n, w' = W.drewN n := fun W => cut_spec x 58 W (by omega)
   have HCUT := Lib.hid hcut
   clear hcut
   generalize cutA 58 x = p at HA HCUT
   generalize cutB 58 x = q at HBB HCUT
   generalize cutK 58 x = kk at HK HCUT
   go_wp2_with (go_at_call 143; refine (HCUT.out _).mono ?_)
   rintro e w1 ⟨rfl, n, hn⟩
   have hb1 : Below wr.heap.size wr w1 := by subst hn; exact below_drewN (Below.refl _ _) n
   have hb2 := Lib.hid (hbw.out.trans (hb1.mono hbw.out.size))
   have ho1 := Lib.hid (own_keep ho.out (row := none) ⟨hb1.os, hb1.tape, hb1.output, hb1.size, fun k hk _ => hb1.block k hk⟩ (fun _ _ => by simp))
   have hp1 := Lib.hid (own_keep hp.out (row := none) ⟨hb1.os, hb1.tape, hb1.output, hb1.size, fun k hk _ => hb1.block k hk⟩ (fun _ _ => by simp))
   clear hb1 hc hn ho hp HCUT
   cases kk
   ·obtain ⟨y, c, rfl, hrow⟩ := own_row (f := Value.string) ho1.out
    obtain ⟨y2, c2, rfl, hrow2⟩ := own_row (f := Value.string) hp1.out
    have HR := Lib.hid hrow
    have HR2 := Lib.hid hrow2
    clear hrow hrow2 ho1 hp1
    go_wp2
    go_ret3
    exact ⟨_, _, al, bs, c, c2, false, by rw [hla, hlb]; rfl, HR.out, HR2.out, hb2.out, by omega, by omega, mapTake_le (cutA_le 58) HZ.out has.out, mapTake_le (cutB_le 58) HZ.out hbs.out, fun h => absurd (HK.out h) (by simp)⟩
   ·go_wp2_with (at_builtin; refine wp_pushF (f := Value.string) 51 9 (.string ⟨#[]⟩) 16 Tryz.underlying51 infoStr rfl rfl (.tmp 32) (.tmp 34) rfl w.heap.size v0 al p rfl w1 (by simp [Act.eval]) (by simp [Act.eval]) ho1.out (by unfold maxLen; omega) (by omega) hb2.out.size ?_)
    intro v0' w2 hown hgrow hwhere
    have ho2 : Hid (w2.ownsRow w.heap.size 9 1 v0' (al ++ [p]).length ((al ++ [p]).map Value.string)) := by show World.ownsRow _ _ _ _ _ _ _; simpa [hla] using hown
    have hb3 := Lib.hid (hb2.out.grown hgrow hb2.out.size fun g hg => (World.ownsRow.lt (w := w1) ho1.out g hg).1)
    have hp2 := Lib.hid (own_keep hp1.out hgrow (fun g hg => hd.out.symm g hg))
    have hd2 := Lib.hid (hd.out.push hwhere (fun g hg => (World.ownsRow.lt (w := w1) hp1.out g hg).2))
    clear hown hgrow hwhere ho1 hp1 hb2 hd
    go_wp2_with (at_builtin; refine wp_pushF (f := Value.string) 51 9 (.string ⟨#[]⟩) 16 Tryz.underlying51 infoStr rfl rfl (.tmp 36) (.tmp 38) rfl w.heap.size v1 bs q rfl w2 (by simp [Act.eval]) (by simp [Act.eval]) hp2.out (by unfold maxLen; omega) (by omega) hb3.out.size ?_)
    intro v1' w3 hown hgrow hwhere
    have hp3 : Hid (w3.ownsRow w.heap.size 9 1 v1' (bs ++ [q]).length ((bs ++ [q]).map Value.string)) := by show World.ownsRow _ _ _ _ _ _ _; simpa [hlb] using hown
    have hb4 := Lib.hid (hb3.out.grown hgrow hb3.out.size fun g hg => (World.ownsRow.lt (w := w2) hp2.out g hg).1)
    have ho3 := Lib.hid (own_keep ho2.out hgrow (fun g hg => hd2.out g hg))
    have hd3 := Lib.hid (Dis.symm (hd2.out.symm.push hwhere (fun g hg => (World.ownsRow.lt (w := w2) ho2.out g hg).2)))
    clear hown hgrow hwhere ho2 hp2 hb3 hd2
    go_wp2
    go_roundw
    case rel => exact ⟨k + 1, al ++ [p], bs ++ [q], v0', v1', by omega, by go_num, rfl, rfl, ho3, hp3, HA, HBB, by simp [hla], by simp [hlb], hd3, hb4⟩
    case measure => simp [intOf]; omega
  ·have k1 : ¬ (k : Int) < (ws.length : Int) := by omega
   obtain rfl : k = ws.length := by omega
   obtain ⟨y, c, rfl, hrow⟩ := own_row (f := Value.string) ho.out
   obtain ⟨y2, c2, rfl, hrow2⟩ := own_row (f := Value.string) hp.out
   have HR := Lib.hid hrow
   have HR2 := Lib.hid hrow2
   clear hrow hrow2 ho hp
   go_wp2
   go_ret3
   exact ⟨_, _, al, bs, c, c2, true, by rw [hla, hlb]; rfl, HR.out, HR2.out, hbw.out, by omega, by omega, mapTake_le (cutA_le 58) HZ.out has.out, mapTake_le (cutB_le 58) HZ.out hbs.out, fun _ => ⟨by rw [has.out, List.take_length], by rw [hbs.out, List.take_length], rfl⟩⟩
def HasRule (lo : Nat) (r : RuleV) (cs : List Value) (w : World) : Prop := IsRule r cs w ∧ CapN cs ∧ ∀ b ∈ cs.flatMap sliceBlk, lo ≤ b
theorem HasRule.below {lo : Nat} {r : RuleV} {cs : List Value} {w w' : World} (h : HasRule lo r cs w) (hb : Below w.heap.size w w') : HasRule lo r cs w' := ⟨h.1.below hb, h.2⟩
theorem HasRule.more {lo lo' : Nat} {r : RuleV} {cs : List Value} {w : World} (h : HasRule lo r cs w) (hl : lo' ≤ lo) : HasRule lo' r cs w := ⟨h.1, h.2.1, fun b hb => Nat.le_trans hl (h.2.2 b hb)⟩
theorem HasRule.grown {lo c : Nat} {r : RuleV} {cs : List Value} {w w' : World} (h : HasRule lo r cs w) (hg : w.grownBy w' (some c)) (hc : c < lo) : HasRule lo r cs w' :=
 ⟨h.1.grown hg (fun b hb e => by injection e with e; have := h.2.2 b hb; omega), h.2⟩
theorem blk_fresh {α : Type} {f : α → Value} {B : Nat} {a : Option Addr} {xs : List α} {c : Nat} {w : World} (h : RowF f B a xs c w) : ∀ b ∈ sliceBlk (.slice a xs.length c), B ≤ b := fun b hb => by
 rcases h.1 with rfl | ⟨b', off, rfl, hB, _⟩
 ·cases a <;> simp [sliceBlk] at hb
 ·by_cases hn : xs.length = 0
  ·simp [sliceBlk, hn] at hb
  ·simp only [sliceBlk, if_neg hn, List.mem_singleton] at hb
   subst hb; exact hB
theorem blk_freshB {B : Nat} {a : Option Addr} {xs : List UInt8} {c : Nat} {w : World} (h : Row B a xs c w) : ∀ b ∈ sliceBlk (.slice a xs.length c), B ≤ b := fun b hb => by
 rcases h.1 with rfl | ⟨b', off, rfl, hB, _⟩
 ·cases a <;> simp [sliceBlk] at hb
 ·by_cases hn : xs.length = 0
  ·simp [sliceBlk, hn] at hb
  ·simp only [sliceBlk, if_neg hn, List.mem_singleton] at hb
   subst hb; exact hB
theorem hasRule_of {B : Nat} {nm : ByteArray} {kd sz : Int} {lt : Bool} {bs : List UInt8} {ns : List ByteArray} {ts ks : List Int} {a4 a5 a6 a7 : Option Addr} {c4 c5 c6 c7 : Nat} {w : World}
  (h4 : Row B a4 bs c4 w) (h5 : RowF Value.string B a5 ns c5 w) (h6 : RowF (Value.int .i64) B a6 ts c6 w) (h7 : RowF (Value.int .i64) B a7 ks c7 w) :
  HasRule B ⟨nm, kd, sz, lt, bs, ns, ts, ks⟩ [.string nm, .int .i64 kd, .int .i64 sz, .bool lt, .slice a4 bs.length c4, .slice a5 ns.length c5, .slice a6 ts.length c6, .slice a7 ks.length c7] w := by
 refine ⟨⟨a4, c4, a5, c5, a6, c6, a7, c7, rfl, h4.rd, h5.rd, h6.rd, h7.rd⟩, ⟨fun a n c h => ?_, fun n c h => ?_⟩, fun b hb => ?_⟩
 ·simp at h
  obtain ⟨-, rfl, rfl⟩ := h
  exact h5.2.1
 ·simp at h
  rcases h with ⟨rfl, rfl, rfl⟩ | ⟨rfl, rfl, rfl⟩ | ⟨rfl, rfl, rfl⟩ | ⟨rfl, rfl, rfl⟩
  ·exact h4.2.2 rfl
  ·exact h5.2.2 rfl
  ·exact h6.2.2 rfl
  ·exact h7.2.2 rfl
 ·simp only [List.flatMap_cons, List.flatMap_nil, List.append_nil, List.mem_append] at hb
  rcases hb with hb | hb | hb | hb | hb | hb | hb | hb
  ·simp [sliceBlk] at hb
  ·simp [sliceBlk] at hb
  ·simp [sliceBlk] at hb
  ·simp [sliceBlk] at hb
  ·exact blk_freshB h4 b hb
  ·exact blk_fresh h5 b hb
  ·exact blk_fresh h6 b hb
  ·exact blk_fresh h7 b hb
theorem row_nil (B : Nat) (w : World) : Row B none [] 0 w := ⟨.inl rfl, Nat.le_refl _, fun _ => rfl⟩
theorem rowF_nil {α : Type} {f : α → Value} (B : Nat) (w : World) : RowF f B none [] 0 w := ⟨.inl rfl, Nat.le_refl _, fun _ => rfl⟩
theorem want_int {rs : List RuleV} {J : ByteArray} {y : RuleV} {ws : List ByteArray} {nm : ByteArray} (hr : allV (kindI rs) rs) (hy : Acc rs J y) (hf : fieldsOf (rs ++ [y]) rs.length y = ws) (hn : y.name = nm) (hk : y.kind = 1) (h0 : 0 < ws.length) :
  ∃ n : Nat, Spells ws[0] n ∧ y = ⟨nm, 1, (n : Int), (if h : ws.length = 2 then decide (ws[1] = littleS) else false), [], [], [], []⟩ := by
 have hv := (hy.good hr).2.2.2
 have hs := kindI_size hv hk
 have ho := hy.only hr
 have ff : fieldsOf (rs ++ [y]) rs.length y = if y.little then [itoaS y.size, littleS] else [itoaS y.size] := by unfold fieldsOf; rw [if_pos hk]
 have e : y = ⟨nm, 1, y.size, y.little, [], [], [], []⟩ := by
  have q : onlyR y = ⟨nm, 1, y.size, y.little, [], [], [], []⟩ := by unfold onlyR; simp [hk, hn]
  rw [← q]; exact ho
 rw [ff] at hf
 refine ⟨y.size.toNat, ?_, ?_⟩
 ·have := itoaS_spells (n := y.size.toNat) (by omega)
  rw [show ((y.size.toNat : Nat) : Int) = y.size from by omega] at this
  cases hl : y.little <;> simp [hl] at hf <;> subst hf <;> simpa using this
 ·rw [show ((y.size.toNat : Nat) : Int) = y.size from by omega]
  have hl : y.little = (if h : ws.length = 2 then decide (ws[1] = littleS) else false) := by
   cases hl : y.little <;> simp [hl] at hf <;> subst hf <;> simp
  rw [← hl]; exact e
theorem want_fixed {rs : List RuleV} {J : ByteArray} {y : RuleV} {ws : List ByteArray} {nm : ByteArray} (hr : allV (kindI rs) rs) (hy : Acc rs J y) (hf : fieldsOf (rs ++ [y]) rs.length y = ws) (hn : y.name = nm) (hk : y.kind = 3) (h0 : 0 < ws.length) :
  ∃ n : Nat, Spells ws[0] n ∧ y = ⟨nm, 3, (n : Int), (if h : ws.length = 2 then decide (ws[1] = littleS) else false), [], [], [], []⟩ := by
 have hv := (hy.good hr).2.2.2
 have hs := kindI_fixed hv hk
 have ho := hy.only hr
 have ff : fieldsOf (rs ++ [y]) rs.length y = [itoaS y.size] := by unfold fieldsOf; simp [hk]
 have e : y = ⟨nm, 3, y.size, false, [], [], [], []⟩ := by
  have q : onlyR y = ⟨nm, 3, y.size, false, [], [], [], []⟩ := by unfold onlyR; simp [hk, hn]
  rw [← q]; exact ho
 rw [ff] at hf
 refine ⟨y.size.toNat, ?_, ?_⟩
 ·have := itoaS_spells (n := y.size.toNat) (by omega)
  rw [show ((y.size.toNat : Nat) : Int) = y.size from by omega] at this
  subst hf; simpa using this
 ·rw [show ((y.size.toNat : Nat) : Int) = y.size from by omega]
  subst hf
  simpa using e
theorem want_hex {rs : List RuleV} {J : ByteArray} {y : RuleV} {ws : List ByteArray} {nm : ByteArray} {kd : Int} (hr : allV (kindI rs) rs) (hy : Acc rs J y) (hf : fieldsOf (rs ++ [y]) rs.length y = ws) (hn : y.name = nm) (hk : y.kind = kd) (hkd : kd = 2 ∨ kd = 10) (h0 : 0 < ws.length) :
  (parseHexOf ws[0].data.toList).2 = true ∧ y = ⟨nm, kd, 0, false, (parseHexOf ws[0].data.toList).1, [], [], []⟩ := by
 have ho := hy.only hr
 have ff : fieldsOf (rs ++ [y]) rs.length y = [hexS y.bytes] := by unfold fieldsOf; rcases hkd with h | h <;> simp [hk, h]
 have e : y = ⟨nm, kd, 0, false, y.bytes, [], [], []⟩ := by
  have q : onlyR y = ⟨nm, kd, 0, false, y.bytes, [], [], []⟩ := by unfold onlyR; rcases hkd with h | h <;> simp [hk, hn, h]
  rw [← q]; exact ho
 rw [ff] at hf
 subst hf
 have hb := hex_back y.bytes
 have hb' : parseHexOf ([hexS y.bytes][0]).data.toList = (y.bytes, true) := hb
 rw [hb']
 exact ⟨rfl, e⟩
theorem kid_named {rs : List RuleV} (hr : allV (kindI rs) rs) {q : Nat} (hq : q < rs.length) : kidB rs[q].name rs = true ∧ kidI rs[q].name rs = (q : Int) := by
 have h := (good_all hr hq).1
 unfold kidB kidI
 rw [h]
 exact ⟨decide_eq_true (by omega), if_pos (by omega)⟩
theorem kidsW_of {rs : List RuleV} {J : ByteArray} {y : RuleV} {ss : List ByteArray} (hr : allV (kindI rs) rs) (hy : Acc rs J y) (hl : y.kids.length = ss.length) (hs : ∀ m (h : m < ss.length), ss[m] = kidName (rs ++ [y]) (rs.length : Int) (m : Int)) : KidsW rs ss y.kids := by
 refine ⟨hl, fun j hj hq => ?_⟩
 obtain ⟨q, hq2, e1, e2⟩ := hy.kid hr hq
 rw [hs j hj, e2]
 have := kid_named hr hq2
 exact ⟨this.1, by rw [e1, this.2]⟩
theorem words_kid {rs : List RuleV} {y : RuleV} {n : Nat} {ws : List ByteArray} (h : kindI rs y = true) (hk : 4 ≤ y.kind ∧ y.kind ≤ 9) (hf : fieldsOf rs n y = ws) : y.kids.length = ws.length ∧ ∀ m (hm : m < ws.length), ws[m] = kidLabel y m ++ kidName rs (n : Int) (m : Int) := by
 have e := fields_kid (n := n) h hk
 rw [hf] at e
 subst e
 exact ⟨by simp, fun m hm => by simp⟩
theorem want_kids {rs : List RuleV} {J : ByteArray} {y : RuleV} {ws : List ByteArray} {nm : ByteArray} {kd : Int} (hr : allV (kindI rs) rs) (hy : Acc rs J y) (hf : fieldsOf (rs ++ [y]) rs.length y = ws) (hn : y.name = nm) (hk : y.kind = kd) (hkd : kd = 4 ∨ kd = 5 ∨ kd = 8 ∨ kd = 9) :
  ∃ ks, KidsW rs ws ks ∧ y = ⟨nm, kd, 0, false, [], [], [], ks⟩ := by
 have ho := hy.only hr
 have e : y = ⟨nm, kd, 0, false, [], [], [], y.kids⟩ := by
  have q : onlyR y = ⟨nm, kd, 0, false, [], [], [], y.kids⟩ := by unfold onlyR; rcases hkd with h | h | h | h <;> simp [hk, hn, h]
  rw [← q]; exact ho
 obtain ⟨hl, hw⟩ := words_kid (hy.good hr).2.2.2 (by omega) hf
 refine ⟨y.kids, kidsW_of hr hy hl (fun m hm => ?_), e⟩
 rw [hw m hm]
 have : kidLabel y m = ⟨#[]⟩ := by unfold kidLabel; rw [if_neg (by omega), if_neg (by omega)]
 rw [this, nil_app]
theorem label_cutK {rs : List RuleV} {y : RuleV} (h : kindI rs y = true) {m : Nat} (hm : m < y.kids.length) (z : ByteArray) (hk : y.kind = 6 ∨ (y.kind = 7 ∧ m ≠ 0)) : cutK 58 (kidLabel y m ++ z) = true := by
 obtain ⟨-, -, k3, k4⟩ := kindI_kids h
 rcases hk with e | ⟨e, hm0⟩
 ·have hn : m < y.names.length := by rw [k3 e]; exact hm
  have hp := nameB_plain ((kindI_names h e).2 _ (List.getElem_mem hn))
  have el : kidLabel y m = y.names[m] ++ ⟨#[58]⟩ := by unfold kidLabel; rw [if_pos e, List.getD_eq_getElem?_getD, List.getElem?_eq_getElem hn]; rfl
  rw [el]
  exact (three_cut hp).1
 ·have hn : m - 1 < y.tags.length := by have := k4 e; omega
  have hp := itoa_plain (n := y.tags[m - 1]) (kindI_tagsP h e _ (List.getElem_mem hn)).1
  have el : kidLabel y m = itoaS y.tags[m - 1] ++ ⟨#[58]⟩ := by unfold kidLabel; rw [if_neg (by omega), if_pos ⟨e, hm0⟩, List.getD_eq_getElem?_getD, List.getElem?_eq_getElem hn]; rfl
  rw [el]
  exact (three_cut hp).1
theorem want_seq {rs : List RuleV} {J : ByteArray} {y : RuleV} {ws : List ByteArray} {nm : ByteArray} (hr : allV (kindI rs) rs) (hy : Acc rs J y) (hf : fieldsOf (rs ++ [y]) rs.length y = ws) (hn : y.name = nm) (hk : y.kind = 6) :
  (∀ s ∈ ws, cutK 58 s = true) ∧ ∃ ks, KidsW rs (ws.map (cutB 58)) ks ∧ y = ⟨nm, 6, 0, false, [], ws.map (cutA 58), [], ks⟩ := by
 have ho := hy.only hr
 have hv := (hy.good hr).2.2.2
 obtain ⟨hl, hw⟩ := words_kid hv (by omega) hf
 have l3 := (kindI_kids hv).2.2.1 hk
 have hc := fun m (hm : m < ws.length) => (label_cut hv (m := m) (by omega) (kidName (rs ++ [y]) (rs.length : Int) (m : Int))).1 hk
 have hnames : y.names = ws.map (cutA 58) := by
  apply List.ext_getElem (by simp; omega)
  intro m h1 h2
  have hm : m < ws.length := by simpa using h2
  obtain ⟨_, c1, _⟩ := hc m hm
  rw [List.getElem_map, hw m hm, c1]
 have e : y = ⟨nm, 6, 0, false, [], y.names, [], y.kids⟩ := by
  have q : onlyR y = ⟨nm, 6, 0, false, [], y.names, [], y.kids⟩ := by unfold onlyR; simp [hk, hn]
  rw [← q]; exact ho
 refine ⟨fun s hs => ?_, y.kids, kidsW_of hr hy (by simpa using hl) (fun m hm => ?_), by rw [← hnames]; exact e⟩
 ·obtain ⟨m, hm, rfl⟩ := List.getElem_of_mem hs
  rw [hw m hm]
  exact label_cutK hv (by omega) _ (.inl hk)
 ·have hm' : m < ws.length := by simpa using hm
  obtain ⟨_, _, c2⟩ := hc m hm'
  rw [List.getElem_map, hw m hm', c2]
theorem want_choice {rs : List RuleV} {J : ByteArray} {y : RuleV} {w0 : ByteArray} {ws : List ByteArray} {nm : ByteArray} (hr : allV (kindI rs) rs) (hy : Acc rs J y) (hf : fieldsOf (rs ++ [y]) rs.length y = w0 :: ws) (hn : y.name = nm) (hk : y.kind = 7) :
  (∀ s ∈ ws, cutK 58 s = true) ∧ ∃ ts ks, TagsW (ws.map (cutA 58)) ts ∧ KidsW rs (w0 :: ws.map (cutB 58)) ks ∧ y = ⟨nm, 7, 0, false, [], [], ts, ks⟩ := by
 have ho := hy.only hr
 have hv := (hy.good hr).2.2.2
 obtain ⟨hl, hw⟩ := words_kid hv (by omega) hf
 have l4 := (kindI_kids hv).2.2.2 hk
 simp at hl
 have hw' : ∀ m (hm : m < ws.length), ws[m] = kidLabel y (m + 1) ++ kidName (rs ++ [y]) (rs.length : Int) ((m + 1 : Nat) : Int) := fun m hm => by
  have := hw (m + 1) (by simpa using hm)
  simpa using this
 have hc := fun m (hm : m < ws.length) => (label_cut hv (m := m + 1) (by omega) (kidName (rs ++ [y]) (rs.length : Int) ((m + 1 : Nat) : Int))).2 hk (by omega)
 have e : y = ⟨nm, 7, 0, false, [], [], y.tags, y.kids⟩ := by
  have q : onlyR y = ⟨nm, 7, 0, false, [], [], y.tags, y.kids⟩ := by unfold onlyR; simp [hk, hn]
  rw [← q]; exact ho
 refine ⟨fun s hs => ?_, y.tags, y.kids, ⟨by simp; omega, fun j hj hq => ?_⟩, kidsW_of hr hy (by simp; omega) (fun m hm => ?_), e⟩
 ·obtain ⟨m, hm, rfl⟩ := List.getElem_of_mem hs
  rw [hw' m hm]
  exact label_cutK hv (by omega) _ (.inr ⟨hk, by omega⟩)
 ·have hm : j < ws.length := by simpa using hj
  obtain ⟨_, c1, _⟩ := hc j hm
  have ht := kindI_tagsP hv hk _ (List.getElem_mem hq)
  refine ⟨y.tags[j].toNat, ?_, by omega⟩
  rw [List.getElem_map, hw' j hm, c1]
  have := itoaS_spells (n := y.tags[j].toNat) (by omega)
  rw [show ((y.tags[j].toNat : Nat) : Int) = y.tags[j] from by omega] at this
  exact this
 ·cases m with
  | zero =>
   have h0 := hw 0 (by simp)
   have z : kidLabel y 0 = ⟨#[]⟩ := by unfold kidLabel; simp [hk]
   rw [z, nil_app] at h0
   simpa using h0
  | succ m =>
   have hm' : m < ws.length := by simpa using hm
   obtain ⟨_, _, c2⟩ := hc m hm'
   simp only [List.getElem_cons_succ, List.getElem_map]
   rw [hw' m hm', c2]
theorem unhex_len : ∀ (n : Nat) (l r : List UInt8), l.length ≤ n → unhex l = some r → r.length ≤ l.length
 | _, [], r, _, h => by simp [unhex] at h; subst h; simp
 | _, [x], r, _, h => by simp [unhex] at h
 | 0, a :: b :: l, r, hn, _ => by simp at hn
 | n + 1, a :: b :: l, r, hn, h => by
  rw [unhex] at h
  split at h
  ·obtain ⟨q, hq, rfl⟩ := Option.map_eq_some_iff.1 h
   have := unhex_len n l q (by simp at hn; omega) hq
   simp; omega
  ·cases h
theorem parseHex_len (l : List UInt8) : (parseHexOf l).1.length ≤ l.length := by
 unfold parseHexOf
 cases h : unhex l with
 | none => simp
 | some r => exact unhex_len l.length l r (Nat.le_refl _) h
end Go.Proofs.YtndjefednfcmmaaGreatDoor
