/- The contract of the program's parseFields, behind a valid description. Contracts of the program's findName at kinds and of parseKind. The contract of the program's ParseRule, behind a valid description. The contract of the program's AddRule, behind a valid description. What a text of a description means, and the contract of the program's ParseDescription. The lines of a valid description, read again: plain facts. No program is walked here. -/
import Derived.Test.YtndjefednfcmmaaGreatDoorGRdA
import Derived.Test.YtndjefednfcmmaaGreatDoorGHx
import Derived.Test.YtndjefednfcmmaaGreatDoorGFnd
import Derived.Test.YtndjefednfcmmaaGreatDoorGBase
import Derived.Test.YtndjefednfcmmaaGreatDoorGLin
import Derived.Test.YtndjefednfcmmaaGreatDoorGCp
import Derived.Test.YtndjefednfcmmaaGreatDoorGMi
set_option maxRecDepth 100000
namespace Go.Proofs.YtndjefednfcmmaaGreatDoor
open Go Go.RowKit
theorem rest_zero (rs : List RuleV) (y : RuleV) : restText rs y 0 = joinS ⟨#[32]⟩ (fieldsOf (rs ++ [y]) rs.length y) := by unfold restText; rw [List.drop_zero]
theorem acc_int {rs : List RuleV} {J : ByteArray} {y : RuleV} (hr : allV (kindI rs) rs) (h : Acc rs J y) (hk : y.kind = 1) : Spells (cutA 32 (restText rs y 0)) y.size.toNat ∧ cutK 32 (restText rs y 0) = y.little ∧ y = ⟨y.name, 1, (y.size.toNat : Int), y.little, [], [], [], []⟩ := by
 have hv := (h.good hr).2.2.2
 have hz := kindI_size hv hk
 have hw := (itoa_plain (n := y.size) (by omega)).ok
 have hs : Spells (itoaS y.size) y.size.toNat := by
  have := itoaS_spells (n := y.size.toNat) (by omega)
  rwa [show ((y.size.toNat : Nat) : Int) = y.size from by omega] at this
 have ho : y = ⟨y.name, 1, (y.size.toNat : Int), y.little, [], [], [], []⟩ := by
  have := h.only hr
  unfold onlyR at this
  rw [if_pos hk] at this
  rw [show ((y.size.toNat : Nat) : Int) = y.size from by omega]
  rw [hk] at this
  exact this
 have hf : fieldsOf (rs ++ [y]) rs.length y = if y.little then [itoaS y.size, littleS] else [itoaS y.size] := by unfold fieldsOf; rw [if_pos hk]
 refine ⟨?_, ?_, ho⟩
 ·rw [rest_zero, hf]
  cases y.little
  ·rw [if_neg (by simp), joinS_first, (cut32_none hw).1]; exact hs
  ·rw [if_pos rfl, joinS_cons (by simp), joinS_first, (cut32 hw).1]; exact hs
 ·rw [rest_zero, hf]
  cases y.little
  ·rw [if_neg (by simp), joinS_first]; exact (cut32_none hw).2.2
  ·rw [if_pos rfl, joinS_cons (by simp), joinS_first]; exact (cut32 hw).2.2
theorem acc_fixed {rs : List RuleV} {J : ByteArray} {y : RuleV} (hr : allV (kindI rs) rs) (h : Acc rs J y) (hk : y.kind = 3) : Spells (restText rs y 0) y.size.toNat ∧ y = ⟨y.name, 3, (y.size.toNat : Int), false, [], [], [], []⟩ := by
 have hv := (h.good hr).2.2.2
 have hz := kindI_fixed hv hk
 have hs : Spells (itoaS y.size) y.size.toNat := by
  have := itoaS_spells (n := y.size.toNat) (by omega)
  rwa [show ((y.size.toNat : Nat) : Int) = y.size from by omega] at this
 have ho : y = ⟨y.name, 3, (y.size.toNat : Int), false, [], [], [], []⟩ := by
  have := h.only hr
  unfold onlyR at this
  rw [if_neg (by omega), if_pos hk] at this
  rw [show ((y.size.toNat : Nat) : Int) = y.size from by omega]
  rw [hk] at this
  exact this
 have hf : fieldsOf (rs ++ [y]) rs.length y = [itoaS y.size] := by unfold fieldsOf; simp [hk]
 refine ⟨?_, ho⟩
 rw [rest_zero, hf, joinS_first]; exact hs
theorem acc_hex {rs : List RuleV} {J : ByteArray} {y : RuleV} (hr : allV (kindI rs) rs) (h : Acc rs J y) (hk : y.kind = 2 ∨ y.kind = 10) : (parseHexOf (lst (restText rs y 0))).1 = y.bytes ∧ y = ⟨y.name, y.kind, 0, false, y.bytes, [], [], []⟩ := by
 have ho : y = ⟨y.name, y.kind, 0, false, y.bytes, [], [], []⟩ := by
  have := h.only hr
  unfold onlyR at this
  rw [if_neg (by omega), if_neg (by omega), if_pos hk] at this
  exact this
 have hf : fieldsOf (rs ++ [y]) rs.length y = [hexS y.bytes] := by unfold fieldsOf; rw [if_neg (by omega), if_pos hk]
 refine ⟨?_, ho⟩
 rw [rest_zero, hf, joinS_first, hex_back]
def BadF (rs : List RuleV) (nm : ByteArray) (k : Int) (F : ByteArray) (y : RuleV) (_m : Nat) : Prop := y.name = nm ∧ y.kind = k ∧ F = restText rs y 0
theorem plain_own (lo hi : Nat) (nm : ByteArray) (k n : Int) (b : Bool) (w : World) : OwnRule lo hi ⟨nm, k, n, b, [], [], [], []⟩ [.string nm, .int .i64 k, .int .i64 n, .bool b, .slice none 0 0, .slice none 0 0, .slice none 0 0, .slice none 0 0] w := by
 refine ⟨none, 0, none, 0, none, 0, none, 0, rfl, ⟨.inl rfl, Nat.le_refl _, fun _ => rfl⟩, ⟨.inl rfl, Nat.le_refl _, fun _ => rfl⟩, ⟨.inl rfl, Nat.le_refl _, fun _ => rfl⟩, ⟨.inl rfl, Nat.le_refl _, fun _ => rfl⟩, ?_, ?_⟩ <;> simp [sliceBlk]
theorem bytes_own {lo c : Nat} {a : Option Addr} {bs : List UInt8} {w : World} (nm : ByteArray) (k : Int) (h : Row lo a bs c w) : OwnRule lo w.heap.size ⟨nm, k, 0, false, bs, [], [], []⟩ [.string nm, .int .i64 k, .int .i64 0, .bool false, .slice a bs.length c, .slice none 0 0, .slice none 0 0, .slice none 0 0] w := by
 have hl := h.1.lies
 refine ⟨a, c, none, 0, none, 0, none, 0, rfl, h, ⟨.inl rfl, Nat.le_refl _, fun _ => rfl⟩, ⟨.inl rfl, Nat.le_refl _, fun _ => rfl⟩, ⟨.inl rfl, Nat.le_refl _, fun _ => rfl⟩, ?_, ?_⟩
 ·rw [blks_eq, show sliceBlk (.slice none 0 0) = [] from rfl]
  simp only [List.append_nil]
  exact sliceBlk_nodup _ _ _
 ·intro b hb
  rw [blks_eq] at hb
  simp only [sliceBlk, List.append_nil] at hb
  exact hl.blk b hb
theorem cut32I (s : ByteArray) (w : World) (hs : s.size ≤ 1073741824) :
  Calls Tryz.prog 88 #[.string s, .int .u8 32] w fun e w' => e = .returned (.tuple #[.string (cutA 32 s), .string (cutB 32 s), .bool (cutK 32 s)]) ∧ Below w.heap.size w w' := (cut_impl s 32 w hs).mono fun e w' ⟨h, n, hn⟩ => ⟨h, by rw [hn]; exact below_drewN (Below.refl _ _) n⟩
theorem short_plain (nm : ByteArray) (k n : Int) (b : Bool) : Short ⟨nm, k, n, b, [], [], [], []⟩ := ⟨Nat.zero_le _, Nat.zero_le _, Nat.zero_le _, Nat.zero_le _⟩
theorem spelt_plain {nm : ByteArray} (k n : Int) (b : Bool) (bs : List UInt8) (h : nm.size ≤ 1048576) : Spelt ⟨nm, k, n, b, bs, [], [], []⟩ := ⟨h, fun s hs => by cases hs⟩
set_option maxHeartbeats 2000000 in
theorem pf_1 (rs : List RuleV) (J : ByteArray) (a : Option Addr) (cap lo : Nat) (nm F : ByteArray) (w : World) (cx : Ctx rs J a cap) (hF : F.size ≤ 1048576) (hnm : nm.size ≤ 1048576) (_hlo : lo ≤ w.heap.size) (ht : Tabs w) (hrd : RdC a rs w) :
  Calls Tryz.prog 92 #[.agg #[.slice a rs.length cap], .agg #[.string nm, .int .i64 1, .int .i64 0, .bool false, .slice none 0 0, .slice none 0 0, .slice none 0 0, .slice none 0 0], .string F, .string J] w (ReadOut1 rs J lo [.string nm, .int .i64 1, .int .i64 0, .bool false, .slice none 0 0, .slice none 0 0, .slice none 0 0, .slice none 0 0] (BadF rs nm 1 F) w) := by
 obtain ⟨w0, hw0⟩ : ∃ w0, w0 = ((w.alloc (.cells #[.slice a rs.length cap] 26)).alloc (.cells #[.string nm, .int .i64 1, .int .i64 0, .bool false, .slice none 0 0, .slice none 0 0, .slice none 0 0, .slice none 0 0] 59)).alloc (.cells #[.string ⟨#[]⟩, .int .i64 0, .int .i64 0, .bool false, .slice none 0 0, .slice none 0 0, .slice none 0 0, .slice none 0 0] 59) := ⟨_, rfl⟩
 have hB0 : Below w.heap.size w w0 := by subst hw0; exact (((Below.refl _ w).alloc (Nat.le_refl _) _).alloc (by simp) _).alloc (by simp; omega) _
 have hz0 : w0.heap.size = w.heap.size + 3 := by subst hw0; simp
 have hD : CellsAt w.heap.size [.slice a rs.length cap] w0 := by subst hw0; exact ((CellsAt.new w [.slice a rs.length cap] 26).below ((Below.refl _ _).alloc (Nat.le_refl _) _)).below ((Below.refl _ _).alloc (Nat.le_refl _) _)
 have hR : CellsAt (w.heap.size + 1) [.string nm, .int .i64 1, .int .i64 0, .bool false, .slice none 0 0, .slice none 0 0, .slice none 0 0, .slice none 0 0] w0 := by
  subst hw0
  have h1 := CellsAt.new (w.alloc (.cells #[.slice a rs.length cap] 26)) [.string nm, .int .i64 1, .int .i64 0, .bool false, .slice none 0 0, .slice none 0 0, .slice none 0 0, .slice none 0 0] 59
  simp only [World.size_alloc] at h1
  exact h1.below ((Below.refl _ _).alloc (Nat.le_refl _) _)
 have hZ : CellsAt (w.heap.size + 2) zeroCs w0 := by
  subst hw0
  have h1 := CellsAt.new ((w.alloc (.cells #[.slice a rs.length cap] 26)).alloc (.cells #[.string nm, .int .i64 1, .int .i64 0, .bool false, .slice none 0 0, .slice none 0 0, .slice none 0 0, .slice none 0 0] 59)) zeroCs 59
  simpa [zeroCs] using h1
 have hb := Lib.hid (Below.refl w0.heap.size w0)
 have HB := Lib.hid hB0
 have HD := Lib.hid hD
 have HR := Lib.hid hR
 have HZ := Lib.hid hZ
 have HW := Lib.hid hw0
 have HTW := Lib.hid ht
 have HC := Lib.hid cx
 have HRDW := Lib.hid hrd
 clear hB0 hD hR hZ hw0 ht cx hrd
 go_enter Tryz.func92, Tryz.ntmps92
 go_upto_region 4 with fail
 rw [← HW.out]
 clear HW
 go_wp2_with fail
 refine (cut32I F _ (by omega)).mono ?_
 rintro e w1 ⟨rfl, hb1⟩
 have hca := cutA_le 32 F
 have HQ0 : Hid (∀ y : RuleV, ∀ m : Nat, Acc rs J y → BadF rs nm 1 F y m → Spells (cutA 32 F) y.size.toNat ∧ cutK 32 F = y.little ∧ y = ⟨nm, 1, (y.size.toNat : Int), y.little, [], [], [], []⟩) := fun y m hy ⟨h1, h2, h3⟩ => by
  have q := acc_int HC.out.all hy h2
  rw [← h3, h1] at q
  exact q
 replace HB := Lib.hid (HB.out.trans (hb1.mono HB.out.size))
 replace hb := Lib.hid (hb.out.trans (hb1.mono hb.out.size))
 clear hb1
 generalize cutA 32 F = ca at *
 generalize cutB 32 F = cb at *
 generalize cutK 32 F = ck at *
 go_wp2_with fail
 refine (pint_impl ca _ (by omega) (HTW.out.below HB.out)).mono ?_
 rintro e w2 ⟨n, ok, rfl, hn1, hn2, hb1⟩
 have HQ : Hid (∀ y (m : Nat), Acc rs J y → BadF rs nm 1 F y m → y = ⟨nm, 1, (n : Int), ck, [], [], [], []⟩) := fun y m hy hbad => by
  obtain ⟨q1, q2, q3⟩ := HQ0.out y m hy hbad
  rw [hn2 _ q1, q2]; exact q3
 replace HB := Lib.hid (HB.out.trans (hb1.mono HB.out.size))
 replace hb := Lib.hid (hb.out.trans (hb1.mono hb.out.size))
 clear hb1 hn2 HQ0
 obtain ⟨r0, -⟩ := HR.out.below hb.out 0 _ rfl
 obtain ⟨r1, -⟩ := HR.out.below hb.out 1 _ rfl
 obtain ⟨r2, p2⟩ := HR.out.below hb.out 2 _ rfl
 obtain ⟨r3, p3⟩ := HR.out.below hb.out 3 _ rfl
 obtain ⟨r4, -⟩ := HR.out.below hb.out 4 _ rfl
 obtain ⟨r5, -⟩ := HR.out.below hb.out 5 _ rfl
 obtain ⟨r6, -⟩ := HR.out.below hb.out 6 _ rfl
 obtain ⟨r7, -⟩ := HR.out.below hb.out 7 _ rfl
 obtain ⟨y0, hy0⟩ : ∃ y, y = ((w2.setCell ⟨w.heap.size + 1, 2, none⟩ (.int .i64 (n : Int))).setCell ⟨w.heap.size + 1, 3, none⟩ (.bool ck)) := ⟨_, rfl⟩
 have HBy : Hid (Below w.heap.size w y0) := by subst hy0; exact ((HB.out.setCell (p := ⟨w.heap.size + 1, 2, none⟩) (by show w.heap.size ≤ w.heap.size + 1; omega) _).setCell (p := ⟨w.heap.size + 1, 3, none⟩) (by show w.heap.size ≤ w.heap.size + 1; omega) _)
 have HDy : Hid (CellsAt w.heap.size [.slice a rs.length cap] y0) := by subst hy0; exact (((HD.out.below hb.out).far (by omega)).far (by omega))
 have HZy : Hid (CellsAt (w.heap.size + 2) zeroCs y0) := by subst hy0; exact (((HZ.out.below hb.out).far (by omega)).far (by omega))
 have HYY := Lib.hid hy0
 clear hy0
 have d0 := (HD.out.below hb.out 0 _ rfl).1
 go_wp2_with fail
 rw [← HYY.out]
 clear HYY
 refine (accept_impl a rs cap ⟨nm, 1, (n : Int), ck, [], [], [], []⟩ [.string nm, .int .i64 1, .int .i64 (n : Int), .bool ck, .slice none 0 0, .slice none 0 0, .slice none 0 0, .slice none 0 0] J _ HC.out.line HC.out.len HC.out.room HC.out.nils (HC.out.shorts (short_plain _ _ _ _)) (HC.out.spelts (spelt_plain _ _ _ _ hnm)) (HTW.out.below HBy.out).pow (HRDW.out.below HBy.out) (plain_own 0 0 nm 1 (n : Int) ck y0).is (plain_own 0 0 nm 1 (n : Int) ck y0).cap).mono ?_
 rintro e v1 ⟨hcase, hb9⟩
 replace HZy := Lib.hid (HZy.out.below hb9)
 replace HB := Lib.hid (HBy.out.trans (hb9.mono HBy.out.size))
 obtain ⟨z0, t0⟩ := HZy.out 0 _ rfl
 obtain ⟨z1, t1⟩ := HZy.out 1 _ rfl
 obtain ⟨z2, t2⟩ := HZy.out 2 _ rfl
 obtain ⟨z3, t3⟩ := HZy.out 3 _ rfl
 obtain ⟨z4, t4⟩ := HZy.out 4 _ rfl
 obtain ⟨z5, t5⟩ := HZy.out 5 _ rfl
 obtain ⟨z6, t6⟩ := HZy.out 6 _ rfl
 obtain ⟨z7, t7⟩ := HZy.out 7 _ rfl
 rcases hcase with ⟨rfl, hacc⟩ | ⟨rfl, hacc⟩
 ·have HA := Lib.hid hacc
  clear hacc HQ
  go_wp2
  (try simp only [Exit.inBlock, Exit.then])
  refine bodyPost_ret (v := .tuple #[.agg #[.string nm, .int .i64 1, .int .i64 (n : Int), .bool ck, .slice none 0 0, .slice none 0 0, .slice none 0 0, .slice none 0 0], .bool true]) ?_ rfl ?_
  ·simp [results, Tryz.results92, go_sem, z0, z1, z2, z3, z4, z5, z6, z7]
  ·exact ⟨_, _, _, rfl, plain_own lo _ nm 1 (n : Int) ck _, ((((((((HB.out.setCell (p := ⟨w.heap.size + 2, 0, none⟩) (by show w.heap.size ≤ w.heap.size + 2; omega) _).setCell (p := ⟨w.heap.size + 2, 1, none⟩) (by show w.heap.size ≤ w.heap.size + 2; omega) _).setCell (p := ⟨w.heap.size + 2, 2, none⟩) (by show w.heap.size ≤ w.heap.size + 2; omega) _).setCell (p := ⟨w.heap.size + 2, 3, none⟩) (by show w.heap.size ≤ w.heap.size + 2; omega) _).setCell (p := ⟨w.heap.size + 2, 4, none⟩) (by show w.heap.size ≤ w.heap.size + 2; omega) _).setCell (p := ⟨w.heap.size + 2, 5, none⟩) (by show w.heap.size ≤ w.heap.size + 2; omega) _).setCell (p := ⟨w.heap.size + 2, 6, none⟩) (by show w.heap.size ≤ w.heap.size + 2; omega) _).setCell (p := ⟨w.heap.size + 2, 7, none⟩) (by show w.heap.size ≤ w.heap.size + 2; omega) _), (fun b hb => by simp [sliceBlk] at hb), fun _ => HA.out, (fun e => by cases e)⟩
 ·have HA := Lib.hid hacc
  clear hacc
  have HNO : Hid (∀ y (m : Nat), Acc rs J y → ¬ BadF rs nm 1 F y m) := fun y m hy hbad => HA.out (HQ.out y m hy hbad ▸ hy)
  unfold zeroCs
  go_wp2
  (try simp only [Exit.inBlock, Exit.then])
  refine bodyPost_ret (v := .tuple #[.agg #[.string ⟨#[]⟩, .int .i64 0, .int .i64 0, .bool false, .slice none 0 0, .slice none 0 0, .slice none 0 0, .slice none 0 0], .bool false]) ?_ rfl ?_
  ·simp [results, Tryz.results92, go_sem, z0, z1, z2, z3, z4, z5, z6, z7]
  ·exact ⟨_, _, _, rfl, zero_own lo _ _, ((((((((HB.out.setCell (p := ⟨w.heap.size + 2, 0, none⟩) (by show w.heap.size ≤ w.heap.size + 2; omega) _).setCell (p := ⟨w.heap.size + 2, 1, none⟩) (by show w.heap.size ≤ w.heap.size + 2; omega) _).setCell (p := ⟨w.heap.size + 2, 2, none⟩) (by show w.heap.size ≤ w.heap.size + 2; omega) _).setCell (p := ⟨w.heap.size + 2, 3, none⟩) (by show w.heap.size ≤ w.heap.size + 2; omega) _).setCell (p := ⟨w.heap.size + 2, 4, none⟩) (by show w.heap.size ≤ w.heap.size + 2; omega) _).setCell (p := ⟨w.heap.size + 2, 5, none⟩) (by show w.heap.size ≤ w.heap.size + 2; omega) _).setCell (p := ⟨w.heap.size + 2, 6, none⟩) (by show w.heap.size ≤ w.heap.size + 2; omega) _).setCell (p := ⟨w.heap.size + 2, 7, none⟩) (by show w.heap.size ≤ w.heap.size + 2; omega) _), (fun b hb => by simp [sliceBlk] at hb), (fun e => by cases e), fun _ => ⟨rfl, rfl, HNO.out⟩⟩
set_option maxHeartbeats 2000000 in
theorem pf_3 (rs : List RuleV) (J : ByteArray) (a : Option Addr) (cap lo : Nat) (nm F : ByteArray) (w : World) (cx : Ctx rs J a cap) (hF : F.size ≤ 1048576) (hnm : nm.size ≤ 1048576) (_hlo : lo ≤ w.heap.size) (ht : Tabs w) (hrd : RdC a rs w) :
  Calls Tryz.prog 92 #[.agg #[.slice a rs.length cap], .agg #[.string nm, .int .i64 3, .int .i64 0, .bool false, .slice none 0 0, .slice none 0 0, .slice none 0 0, .slice none 0 0], .string F, .string J] w (ReadOut1 rs J lo [.string nm, .int .i64 3, .int .i64 0, .bool false, .slice none 0 0, .slice none 0 0, .slice none 0 0, .slice none 0 0] (BadF rs nm 3 F) w) := by
 obtain ⟨w0, hw0⟩ : ∃ w0, w0 = ((w.alloc (.cells #[.slice a rs.length cap] 26)).alloc (.cells #[.string nm, .int .i64 3, .int .i64 0, .bool false, .slice none 0 0, .slice none 0 0, .slice none 0 0, .slice none 0 0] 59)).alloc (.cells #[.string ⟨#[]⟩, .int .i64 0, .int .i64 0, .bool false, .slice none 0 0, .slice none 0 0, .slice none 0 0, .slice none 0 0] 59) := ⟨_, rfl⟩
 have hB0 : Below w.heap.size w w0 := by subst hw0; exact (((Below.refl _ w).alloc (Nat.le_refl _) _).alloc (by simp) _).alloc (by simp; omega) _
 have hz0 : w0.heap.size = w.heap.size + 3 := by subst hw0; simp
 have hD : CellsAt w.heap.size [.slice a rs.length cap] w0 := by subst hw0; exact ((CellsAt.new w [.slice a rs.length cap] 26).below ((Below.refl _ _).alloc (Nat.le_refl _) _)).below ((Below.refl _ _).alloc (Nat.le_refl _) _)
 have hR : CellsAt (w.heap.size + 1) [.string nm, .int .i64 3, .int .i64 0, .bool false, .slice none 0 0, .slice none 0 0, .slice none 0 0, .slice none 0 0] w0 := by
  subst hw0
  have h1 := CellsAt.new (w.alloc (.cells #[.slice a rs.length cap] 26)) [.string nm, .int .i64 3, .int .i64 0, .bool false, .slice none 0 0, .slice none 0 0, .slice none 0 0, .slice none 0 0] 59
  simp only [World.size_alloc] at h1
  exact h1.below ((Below.refl _ _).alloc (Nat.le_refl _) _)
 have hZ : CellsAt (w.heap.size + 2) zeroCs w0 := by
  subst hw0
  have h1 := CellsAt.new ((w.alloc (.cells #[.slice a rs.length cap] 26)).alloc (.cells #[.string nm, .int .i64 3, .int .i64 0, .bool false, .slice none 0 0, .slice none 0 0, .slice none 0 0, .slice none 0 0] 59)) zeroCs 59
  simpa [zeroCs] using h1
 have hb := Lib.hid (Below.refl w0.heap.size w0)
 have HB := Lib.hid hB0
 have HD := Lib.hid hD
 have HR := Lib.hid hR
 have HZ := Lib.hid hZ
 have HW := Lib.hid hw0
 have HTW := Lib.hid ht
 have HC := Lib.hid cx
 have HRDW := Lib.hid hrd
 clear hB0 hD hR hZ hw0 ht cx hrd
 go_enter Tryz.func92, Tryz.ntmps92
 go_upto_region 8 with fail
 rw [← HW.out]
 clear HW
 go_wp2_with fail
 refine (pint_impl F _ (by omega) (HTW.out.below HB.out)).mono ?_
 rintro e w2 ⟨n, ok, rfl, hn1, hn2, hb1⟩
 have HQ : Hid (∀ y (m : Nat), Acc rs J y → BadF rs nm 3 F y m → y = ⟨nm, 3, (n : Int), false, [], [], [], []⟩) := fun y m hy ⟨h1, h2, h3⟩ => by
  obtain ⟨q1, q3⟩ := acc_fixed HC.out.all hy h2
  rw [← h3] at q1
  rw [h1] at q3
  rw [hn2 _ q1]; exact q3
 replace HB := Lib.hid (HB.out.trans (hb1.mono HB.out.size))
 replace hb := Lib.hid (hb.out.trans (hb1.mono hb.out.size))
 clear hb1 hn2
 obtain ⟨r0, -⟩ := HR.out.below hb.out 0 _ rfl
 obtain ⟨r1, -⟩ := HR.out.below hb.out 1 _ rfl
 obtain ⟨r2, p2⟩ := HR.out.below hb.out 2 _ rfl
 obtain ⟨r3, -⟩ := HR.out.below hb.out 3 _ rfl
 obtain ⟨r4, -⟩ := HR.out.below hb.out 4 _ rfl
 obtain ⟨r5, -⟩ := HR.out.below hb.out 5 _ rfl
 obtain ⟨r6, -⟩ := HR.out.below hb.out 6 _ rfl
 obtain ⟨r7, -⟩ := HR.out.below hb.out 7 _ rfl
 obtain ⟨y0, hy0⟩ : ∃ y, y = (w2.setCell ⟨w.heap.size + 1, 2, none⟩ (.int .i64 (n : Int))) := ⟨_, rfl⟩
 have HBy : Hid (Below w.heap.size w y0) := by subst hy0; exact (HB.out.setCell (p := ⟨w.heap.size + 1, 2, none⟩) (by show w.heap.size ≤ w.heap.size + 1; omega) _)
 have HDy : Hid (CellsAt w.heap.size [.slice a rs.length cap] y0) := by subst hy0; exact ((HD.out.below hb.out).far (by omega))
 have HZy : Hid (CellsAt (w.heap.size + 2) zeroCs y0) := by subst hy0; exact ((HZ.out.below hb.out).far (by omega))
 have HYY := Lib.hid hy0
 clear hy0
 have d0 := (HD.out.below hb.out 0 _ rfl).1
 go_wp2_with fail
 rw [← HYY.out]
 clear HYY
 refine (accept_impl a rs cap ⟨nm, 3, (n : Int), false, [], [], [], []⟩ [.string nm, .int .i64 3, .int .i64 (n : Int), .bool false, .slice none 0 0, .slice none 0 0, .slice none 0 0, .slice none 0 0] J _ HC.out.line HC.out.len HC.out.room HC.out.nils (HC.out.shorts (short_plain _ _ _ _)) (HC.out.spelts (spelt_plain _ _ _ _ hnm)) (HTW.out.below HBy.out).pow (HRDW.out.below HBy.out) (plain_own 0 0 nm 3 (n : Int) false y0).is (plain_own 0 0 nm 3 (n : Int) false y0).cap).mono ?_
 rintro e v1 ⟨hcase, hb9⟩
 replace HZy := Lib.hid (HZy.out.below hb9)
 replace HB := Lib.hid (HBy.out.trans (hb9.mono HBy.out.size))
 obtain ⟨z0, t0⟩ := HZy.out 0 _ rfl
 obtain ⟨z1, t1⟩ := HZy.out 1 _ rfl
 obtain ⟨z2, t2⟩ := HZy.out 2 _ rfl
 obtain ⟨z3, t3⟩ := HZy.out 3 _ rfl
 obtain ⟨z4, t4⟩ := HZy.out 4 _ rfl
 obtain ⟨z5, t5⟩ := HZy.out 5 _ rfl
 obtain ⟨z6, t6⟩ := HZy.out 6 _ rfl
 obtain ⟨z7, t7⟩ := HZy.out 7 _ rfl
 rcases hcase with ⟨rfl, hacc⟩ | ⟨rfl, hacc⟩
 ·have HA := Lib.hid hacc
  clear hacc HQ
  go_wp2
  (try simp only [Exit.inBlock, Exit.then])
  refine bodyPost_ret (v := .tuple #[.agg #[.string nm, .int .i64 3, .int .i64 (n : Int), .bool false, .slice none 0 0, .slice none 0 0, .slice none 0 0, .slice none 0 0], .bool true]) ?_ rfl ?_
  ·simp [results, Tryz.results92, go_sem, z0, z1, z2, z3, z4, z5, z6, z7]
  ·exact ⟨_, _, _, rfl, plain_own lo _ nm 3 (n : Int) false _, ((((((((HB.out.setCell (p := ⟨w.heap.size + 2, 0, none⟩) (by show w.heap.size ≤ w.heap.size + 2; omega) _).setCell (p := ⟨w.heap.size + 2, 1, none⟩) (by show w.heap.size ≤ w.heap.size + 2; omega) _).setCell (p := ⟨w.heap.size + 2, 2, none⟩) (by show w.heap.size ≤ w.heap.size + 2; omega) _).setCell (p := ⟨w.heap.size + 2, 3, none⟩) (by show w.heap.size ≤ w.heap.size + 2; omega) _).setCell (p := ⟨w.heap.size + 2, 4, none⟩) (by show w.heap.size ≤ w.heap.size + 2; omega) _).setCell (p := ⟨w.heap.size + 2, 5, none⟩) (by show w.heap.size ≤ w.heap.size + 2; omega) _).setCell (p := ⟨w.heap.size + 2, 6, none⟩) (by show w.heap.size ≤ w.heap.size + 2; omega) _).setCell (p := ⟨w.heap.size + 2, 7, none⟩) (by show w.heap.size ≤ w.heap.size + 2; omega) _), (fun b hb => by simp [sliceBlk] at hb), fun _ => HA.out, (fun e => by cases e)⟩
 ·have HA := Lib.hid hacc
  clear hacc
  have HNO : Hid (∀ y (m : Nat), Acc rs J y → ¬ BadF rs nm 3 F y m) := fun y m hy hbad => HA.out (HQ.out y m hy hbad ▸ hy)
  unfold zeroCs
  go_wp2
  (try simp only [Exit.inBlock, Exit.then])
  refine bodyPost_ret (v := .tuple #[.agg #[.string ⟨#[]⟩, .int .i64 0, .int .i64 0, .bool false, .slice none 0 0, .slice none 0 0, .slice none 0 0, .slice none 0 0], .bool false]) ?_ rfl ?_
  ·simp [results, Tryz.results92, go_sem, z0, z1, z2, z3, z4, z5, z6, z7]
  ·exact ⟨_, _, _, rfl, zero_own lo _ _, ((((((((HB.out.setCell (p := ⟨w.heap.size + 2, 0, none⟩) (by show w.heap.size ≤ w.heap.size + 2; omega) _).setCell (p := ⟨w.heap.size + 2, 1, none⟩) (by show w.heap.size ≤ w.heap.size + 2; omega) _).setCell (p := ⟨w.heap.size + 2, 2, none⟩) (by show w.heap.size ≤ w.heap.size + 2; omega) _).setCell (p := ⟨w.heap.size + 2, 3, none⟩) (by show w.heap.size ≤ w.heap.size + 2; omega) _).setCell (p := ⟨w.heap.size + 2, 4, none⟩) (by show w.heap.size ≤ w.heap.size + 2; omega) _).setCell (p := ⟨w.heap.size + 2, 5, none⟩) (by show w.heap.size ≤ w.heap.size + 2; omega) _).setCell (p := ⟨w.heap.size + 2, 6, none⟩) (by show w.heap.size ≤ w.heap.size + 2; omega) _).setCell (p := ⟨w.heap.size + 2, 7, none⟩) (by show w.heap.size ≤ w.heap.size + 2; omega) _), (fun b hb => by simp [sliceBlk] at hb), (fun e => by cases e), fun _ => ⟨rfl, rfl, HNO.out⟩⟩
set_option maxHeartbeats 2000000 in
theorem pf_2 (rs : List RuleV) (J : ByteArray) (a : Option Addr) (cap lo : Nat) (nm F : ByteArray) (w : World) (cx : Ctx rs J a cap) (hF : F.size ≤ 1048576) (hnm : nm.size ≤ 1048576) (hlo : lo ≤ w.heap.size) (ht : Tabs w) (hrd : RdC a rs w) :
  Calls Tryz.prog 92 #[.agg #[.slice a rs.length cap], .agg #[.string nm, .int .i64 2, .int .i64 0, .bool false, .slice none 0 0, .slice none 0 0, .slice none 0 0, .slice none 0 0], .string F, .string J] w (ReadOut1 rs J lo [.string nm, .int .i64 2, .int .i64 0, .bool false, .slice none 0 0, .slice none 0 0, .slice none 0 0, .slice none 0 0] (BadF rs nm 2 F) w) := by
 obtain ⟨w0, hw0⟩ : ∃ w0, w0 = ((w.alloc (.cells #[.slice a rs.length cap] 26)).alloc (.cells #[.string nm, .int .i64 2, .int .i64 0, .bool false, .slice none 0 0, .slice none 0 0, .slice none 0 0, .slice none 0 0] 59)).alloc (.cells #[.string ⟨#[]⟩, .int .i64 0, .int .i64 0, .bool false, .slice none 0 0, .slice none 0 0, .slice none 0 0, .slice none 0 0] 59) := ⟨_, rfl⟩
 have hB0 : Below w.heap.size w w0 := by subst hw0; exact (((Below.refl _ w).alloc (Nat.le_refl _) _).alloc (by simp) _).alloc (by simp; omega) _
 have hz0 : w0.heap.size = w.heap.size + 3 := by subst hw0; simp
 have hD : CellsAt w.heap.size [.slice a rs.length cap] w0 := by subst hw0; exact ((CellsAt.new w [.slice a rs.length cap] 26).below ((Below.refl _ _).alloc (Nat.le_refl _) _)).below ((Below.refl _ _).alloc (Nat.le_refl _) _)
 have hR : CellsAt (w.heap.size + 1) [.string nm, .int .i64 2, .int .i64 0, .bool false, .slice none 0 0, .slice none 0 0, .slice none 0 0, .slice none 0 0] w0 := by
  subst hw0
  have h1 := CellsAt.new (w.alloc (.cells #[.slice a rs.length cap] 26)) [.string nm, .int .i64 2, .int .i64 0, .bool false, .slice none 0 0, .slice none 0 0, .slice none 0 0, .slice none 0 0] 59
  simp only [World.size_alloc] at h1
  exact h1.below ((Below.refl _ _).alloc (Nat.le_refl _) _)
 have hZ : CellsAt (w.heap.size + 2) zeroCs w0 := by
  subst hw0
  have h1 := CellsAt.new ((w.alloc (.cells #[.slice a rs.length cap] 26)).alloc (.cells #[.string nm, .int .i64 2, .int .i64 0, .bool false, .slice none 0 0, .slice none 0 0, .slice none 0 0, .slice none 0 0] 59)) zeroCs 59
  simpa [zeroCs] using h1
 have hb := Lib.hid (Below.refl w0.heap.size w0)
 have HB := Lib.hid hB0
 have HD := Lib.hid hD
 have HR := Lib.hid hR
 have HZ := Lib.hid hZ
 have HW := Lib.hid hw0
 have HTW := Lib.hid ht
 have HC := Lib.hid cx
 have HRDW := Lib.hid hrd
 clear hB0 hD hR hZ hw0 ht cx hrd
 go_enter Tryz.func92, Tryz.ntmps92
 go_upto_region 11 with fail
 rw [← HW.out]
 clear HW
 go_wp2_with fail
 refine (parsehex_impl F _ (by omega)).mono ?_
 rintro e w2 ⟨x4, y4, rfl, hrow, hb1⟩
 have hbl := parseHexOf_length F
 have HQ : Hid (∀ y (m : Nat), Acc rs J y → BadF rs nm 2 F y m → y = ⟨nm, 2, 0, false, (parseHexOf F.data.toList).1, [], [], []⟩) := fun y m hy ⟨h1, h2, h3⟩ => by
  obtain ⟨q1, q3⟩ := acc_hex HC.out.all hy (by omega)
  rw [← h3] at q1
  rw [h1, h2, ← q1] at q3
  exact q3
 have hs2 := hb1.size
 have HROW := Lib.hid (hrow.more (show lo ≤ w0.heap.size by omega))
 have hwhere := Lib.hid hrow.1.lies
 replace HB := Lib.hid (HB.out.trans (hb1.mono HB.out.size))
 replace hb := Lib.hid (hb.out.trans (hb1.mono hb.out.size))
 clear hb1 hrow
 obtain ⟨r0, -⟩ := HR.out.below hb.out 0 _ rfl
 obtain ⟨r1, -⟩ := HR.out.below hb.out 1 _ rfl
 obtain ⟨r2, -⟩ := HR.out.below hb.out 2 _ rfl
 obtain ⟨r3, -⟩ := HR.out.below hb.out 3 _ rfl
 obtain ⟨r4, p4⟩ := HR.out.below hb.out 4 _ rfl
 obtain ⟨r5, -⟩ := HR.out.below hb.out 5 _ rfl
 obtain ⟨r6, -⟩ := HR.out.below hb.out 6 _ rfl
 obtain ⟨r7, -⟩ := HR.out.below hb.out 7 _ rfl
 generalize (parseHexOf F.data.toList).1 = bs at *
 generalize (parseHexOf F.data.toList).2 = hk at *
 obtain ⟨y0, hy0⟩ : ∃ y, y = (w2.setCell ⟨w.heap.size + 1, 4, none⟩ (.slice x4 bs.length y4)) := ⟨_, rfl⟩
 have HBy : Hid (Below w.heap.size w y0) := by subst hy0; exact (HB.out.setCell (p := ⟨w.heap.size + 1, 4, none⟩) (by show w.heap.size ≤ w.heap.size + 1; omega) _)
 have HDy : Hid (CellsAt w.heap.size [.slice a rs.length cap] y0) := by subst hy0; exact ((HD.out.below hb.out).far (by omega))
 have HZy : Hid (CellsAt (w.heap.size + 2) zeroCs y0) := by subst hy0; exact ((HZ.out.below hb.out).far (by omega))
 have HYY := Lib.hid hy0
 clear hy0
 have NE : Hid (∀ b ∈ ([.string nm, .int .i64 2, .int .i64 0, .bool false, .slice x4 bs.length y4, .slice none 0 0, .slice none 0 0, .slice none 0 0] : List Value).flatMap sliceBlk, w0.heap.size ≤ b) := fun b hb => by
  rw [blks_eq] at hb
  simp only [sliceBlk, List.append_nil] at hb
  exact (hwhere.out.blk b hb).1
 have HOy : Hid (OwnRule lo y0.heap.size ⟨nm, 2, 0, false, bs, [], [], []⟩ [.string nm, .int .i64 2, .int .i64 0, .bool false, .slice x4 bs.length y4, .slice none 0 0, .slice none 0 0, .slice none 0 0] y0) := by
  have q := bytes_own nm 2 HROW.out
  have q2 := q.setOut (x := w.heap.size + 1) (i := 4) (v := .slice x4 bs.length y4) (fun b hb => by have := NE.out b hb; omega)
  rw [← HYY.out] at q2
  exact q2.more (Nat.le_refl _) (by rw [HYY.out]; simp)
 have d0 := (HD.out.below hb.out 0 _ rfl).1
 go_wp2_with fail
 rw [← HYY.out]
 clear HYY
 refine (accept_impl a rs cap ⟨nm, 2, 0, false, bs, [], [], []⟩ [.string nm, .int .i64 2, .int .i64 0, .bool false, .slice x4 bs.length y4, .slice none 0 0, .slice none 0 0, .slice none 0 0] J _ HC.out.line HC.out.len HC.out.room HC.out.nils (HC.out.shorts ⟨by show bs.length ≤ 1048576; omega, Nat.zero_le _, Nat.zero_le _, Nat.zero_le _⟩) (HC.out.spelts (spelt_plain _ _ _ _ hnm)) (HTW.out.below HBy.out).pow (HRDW.out.below HBy.out) HOy.out.is HOy.out.cap).mono ?_
 rintro e v1 ⟨hcase, hb9⟩
 replace HZy := Lib.hid (HZy.out.below hb9)
 replace HB := Lib.hid (HBy.out.trans (hb9.mono HBy.out.size))
 obtain ⟨z0, t0⟩ := HZy.out 0 _ rfl
 obtain ⟨z1, t1⟩ := HZy.out 1 _ rfl
 obtain ⟨z2, t2⟩ := HZy.out 2 _ rfl
 obtain ⟨z3, t3⟩ := HZy.out 3 _ rfl
 obtain ⟨z4, t4⟩ := HZy.out 4 _ rfl
 obtain ⟨z5, t5⟩ := HZy.out 5 _ rfl
 obtain ⟨z6, t6⟩ := HZy.out 6 _ rfl
 obtain ⟨z7, t7⟩ := HZy.out 7 _ rfl
 have hs9 := hb9.size
 have HO9 := Lib.hid ((HOy.out.below hb9).more (Nat.le_refl _) hs9)
 rcases hcase with ⟨rfl, hacc⟩ | ⟨rfl, hacc⟩
 ·have HA := Lib.hid hacc
  clear hacc HQ
  go_wp2
  (try simp only [Exit.inBlock, Exit.then])
  refine bodyPost_ret (v := .tuple #[.agg #[.string nm, .int .i64 2, .int .i64 0, .bool false, .slice x4 bs.length y4, .slice none 0 0, .slice none 0 0, .slice none 0 0], .bool true]) ?_ rfl ?_
  ·simp [results, Tryz.results92, go_sem, z0, z1, z2, z3, z4, z5, z6, z7]
  ·exact ⟨_, _, _, rfl, ((((((((HO9.out.setOut (x := w.heap.size + 2) (i := 0) (fun b hb => by have := NE.out b hb; omega)).setOut (x := w.heap.size + 2) (i := 1) (fun b hb => by have := NE.out b hb; omega)).setOut (x := w.heap.size + 2) (i := 2) (fun b hb => by have := NE.out b hb; omega)).setOut (x := w.heap.size + 2) (i := 3) (fun b hb => by have := NE.out b hb; omega)).setOut (x := w.heap.size + 2) (i := 4) (fun b hb => by have := NE.out b hb; omega)).setOut (x := w.heap.size + 2) (i := 5) (fun b hb => by have := NE.out b hb; omega)).setOut (x := w.heap.size + 2) (i := 6) (fun b hb => by have := NE.out b hb; omega)).setOut (x := w.heap.size + 2) (i := 7) (fun b hb => by have := NE.out b hb; omega)).more (Nat.le_refl _) (by simp), ((((((((HB.out.setCell (p := ⟨w.heap.size + 2, 0, none⟩) (by show w.heap.size ≤ w.heap.size + 2; omega) _).setCell (p := ⟨w.heap.size + 2, 1, none⟩) (by show w.heap.size ≤ w.heap.size + 2; omega) _).setCell (p := ⟨w.heap.size + 2, 2, none⟩) (by show w.heap.size ≤ w.heap.size + 2; omega) _).setCell (p := ⟨w.heap.size + 2, 3, none⟩) (by show w.heap.size ≤ w.heap.size + 2; omega) _).setCell (p := ⟨w.heap.size + 2, 4, none⟩) (by show w.heap.size ≤ w.heap.size + 2; omega) _).setCell (p := ⟨w.heap.size + 2, 5, none⟩) (by show w.heap.size ≤ w.heap.size + 2; omega) _).setCell (p := ⟨w.heap.size + 2, 6, none⟩) (by show w.heap.size ≤ w.heap.size + 2; omega) _).setCell (p := ⟨w.heap.size + 2, 7, none⟩) (by show w.heap.size ≤ w.heap.size + 2; omega) _), fun b hb => .inr (by have := NE.out b hb; omega), fun _ => HA.out, (fun e => by cases e)⟩
 ·have HA := Lib.hid hacc
  clear hacc
  have HNO : Hid (∀ y (m : Nat), Acc rs J y → ¬ BadF rs nm 2 F y m) := fun y m hy hbad => HA.out (HQ.out y m hy hbad ▸ hy)
  unfold zeroCs
  go_wp2
  (try simp only [Exit.inBlock, Exit.then])
  refine bodyPost_ret (v := .tuple #[.agg #[.string ⟨#[]⟩, .int .i64 0, .int .i64 0, .bool false, .slice none 0 0, .slice none 0 0, .slice none 0 0, .slice none 0 0], .bool false]) ?_ rfl ?_
  ·simp [results, Tryz.results92, go_sem, z0, z1, z2, z3, z4, z5, z6, z7]
  ·exact ⟨_, _, _, rfl, zero_own lo _ _, ((((((((HB.out.setCell (p := ⟨w.heap.size + 2, 0, none⟩) (by show w.heap.size ≤ w.heap.size + 2; omega) _).setCell (p := ⟨w.heap.size + 2, 1, none⟩) (by show w.heap.size ≤ w.heap.size + 2; omega) _).setCell (p := ⟨w.heap.size + 2, 2, none⟩) (by show w.heap.size ≤ w.heap.size + 2; omega) _).setCell (p := ⟨w.heap.size + 2, 3, none⟩) (by show w.heap.size ≤ w.heap.size + 2; omega) _).setCell (p := ⟨w.heap.size + 2, 4, none⟩) (by show w.heap.size ≤ w.heap.size + 2; omega) _).setCell (p := ⟨w.heap.size + 2, 5, none⟩) (by show w.heap.size ≤ w.heap.size + 2; omega) _).setCell (p := ⟨w.heap.size + 2, 6, none⟩) (by show w.heap.size ≤ w.heap.size + 2; omega) _).setCell (p := ⟨w.heap.size + 2, 7, none⟩) (by show w.heap.size ≤ w.heap.size + 2; omega) _), (fun b hb => by simp [sliceBlk] at hb), (fun e => by cases e), fun _ => ⟨rfl, rfl, HNO.out⟩⟩
set_option maxHeartbeats 2000000 in
theorem pf_10 (rs : List RuleV) (J : ByteArray) (a : Option Addr) (cap lo : Nat) (nm F : ByteArray) (w : World) (cx : Ctx rs J a cap) (hF : F.size ≤ 1048576) (hnm : nm.size ≤ 1048576) (hlo : lo ≤ w.heap.size) (ht : Tabs w) (hrd : RdC a rs w) :
  Calls Tryz.prog 92 #[.agg #[.slice a rs.length cap], .agg #[.string nm, .int .i64 10, .int .i64 0, .bool false, .slice none 0 0, .slice none 0 0, .slice none 0 0, .slice none 0 0], .string F, .string J] w (ReadOut1 rs J lo [.string nm, .int .i64 10, .int .i64 0, .bool false, .slice none 0 0, .slice none 0 0, .slice none 0 0, .slice none 0 0] (BadF rs nm 10 F) w) := by
 obtain ⟨w0, hw0⟩ : ∃ w0, w0 = ((w.alloc (.cells #[.slice a rs.length cap] 26)).alloc (.cells #[.string nm, .int .i64 10, .int .i64 0, .bool false, .slice none 0 0, .slice none 0 0, .slice none 0 0, .slice none 0 0] 59)).alloc (.cells #[.string ⟨#[]⟩, .int .i64 0, .int .i64 0, .bool false, .slice none 0 0, .slice none 0 0, .slice none 0 0, .slice none 0 0] 59) := ⟨_, rfl⟩
 have hB0 : Below w.heap.size w w0 := by subst hw0; exact (((Below.refl _ w).alloc (Nat.le_refl _) _).alloc (by simp) _).alloc (by simp; omega) _
 have hz0 : w0.heap.size = w.heap.size + 3 := by subst hw0; simp
 have hD : CellsAt w.heap.size [.slice a rs.length cap] w0 := by subst hw0; exact ((CellsAt.new w [.slice a rs.length cap] 26).below ((Below.refl _ _).alloc (Nat.le_refl _) _)).below ((Below.refl _ _).alloc (Nat.le_refl _) _)
 have hR : CellsAt (w.heap.size + 1) [.string nm, .int .i64 10, .int .i64 0, .bool false, .slice none 0 0, .slice none 0 0, .slice none 0 0, .slice none 0 0] w0 := by
  subst hw0
  have h1 := CellsAt.new (w.alloc (.cells #[.slice a rs.length cap] 26)) [.string nm, .int .i64 10, .int .i64 0, .bool false, .slice none 0 0, .slice none 0 0, .slice none 0 0, .slice none 0 0] 59
  simp only [World.size_alloc] at h1
  exact h1.below ((Below.refl _ _).alloc (Nat.le_refl _) _)
 have hZ : CellsAt (w.heap.size + 2) zeroCs w0 := by
  subst hw0
  have h1 := CellsAt.new ((w.alloc (.cells #[.slice a rs.length cap] 26)).alloc (.cells #[.string nm, .int .i64 10, .int .i64 0, .bool false, .slice none 0 0, .slice none 0 0, .slice none 0 0, .slice none 0 0] 59)) zeroCs 59
  simpa [zeroCs] using h1
 have hb := Lib.hid (Below.refl w0.heap.size w0)
 have HB := Lib.hid hB0
 have HD := Lib.hid hD
 have HR := Lib.hid hR
 have HZ := Lib.hid hZ
 have HW := Lib.hid hw0
 have HTW := Lib.hid ht
 have HC := Lib.hid cx
 have HRDW := Lib.hid hrd
 clear hB0 hD hR hZ hw0 ht cx hrd
 go_enter Tryz.func92, Tryz.ntmps92
 go_upto_region 11 with fail
 rw [← HW.out]
 clear HW
 go_wp2_with fail
 refine (parsehex_impl F _ (by omega)).mono ?_
 rintro e w2 ⟨x4, y4, rfl, hrow, hb1⟩
 have hbl := parseHexOf_length F
 have HQ : Hid (∀ y (m : Nat), Acc rs J y → BadF rs nm 10 F y m → y = ⟨nm, 10, 0, false, (parseHexOf F.data.toList).1, [], [], []⟩) := fun y m hy ⟨h1, h2, h3⟩ => by
  obtain ⟨q1, q3⟩ := acc_hex HC.out.all hy (by omega)
  rw [← h3] at q1
  rw [h1, h2, ← q1] at q3
  exact q3
 have hs2 := hb1.size
 have HROW := Lib.hid (hrow.more (show lo ≤ w0.heap.size by omega))
 have hwhere := Lib.hid hrow.1.lies
 replace HB := Lib.hid (HB.out.trans (hb1.mono HB.out.size))
 replace hb := Lib.hid (hb.out.trans (hb1.mono hb.out.size))
 clear hb1 hrow
 obtain ⟨r0, -⟩ := HR.out.below hb.out 0 _ rfl
 obtain ⟨r1, -⟩ := HR.out.below hb.out 1 _ rfl
 obtain ⟨r2, -⟩ := HR.out.below hb.out 2 _ rfl
 obtain ⟨r3, -⟩ := HR.out.below hb.out 3 _ rfl
 obtain ⟨r4, p4⟩ := HR.out.below hb.out 4 _ rfl
 obtain ⟨r5, -⟩ := HR.out.below hb.out 5 _ rfl
 obtain ⟨r6, -⟩ := HR.out.below hb.out 6 _ rfl
 obtain ⟨r7, -⟩ := HR.out.below hb.out 7 _ rfl
 generalize (parseHexOf F.data.toList).1 = bs at *
 generalize (parseHexOf F.data.toList).2 = hk at *
 obtain ⟨y0, hy0⟩ : ∃ y, y = (w2.setCell ⟨w.heap.size + 1, 4, none⟩ (.slice x4 bs.length y4)) := ⟨_, rfl⟩
 have HBy : Hid (Below w.heap.size w y0) := by subst hy0; exact (HB.out.setCell (p := ⟨w.heap.size + 1, 4, none⟩) (by show w.heap.size ≤ w.heap.size + 1; omega) _)
 have HDy : Hid (CellsAt w.heap.size [.slice a rs.length cap] y0) := by subst hy0; exact ((HD.out.below hb.out).far (by omega))
 have HZy : Hid (CellsAt (w.heap.size + 2) zeroCs y0) := by subst hy0; exact ((HZ.out.below hb.out).far (by omega))
 have HYY := Lib.hid hy0
 clear hy0
 have NE : Hid (∀ b ∈ ([.string nm, .int .i64 10, .int .i64 0, .bool false, .slice x4 bs.length y4, .slice none 0 0, .slice none 0 0, .slice none 0 0] : List Value).flatMap sliceBlk, w0.heap.size ≤ b) := fun b hb => by
  rw [blks_eq] at hb
  simp only [sliceBlk, List.append_nil] at hb
  exact (hwhere.out.blk b hb).1
 have HOy : Hid (OwnRule lo y0.heap.size ⟨nm, 10, 0, false, bs, [], [], []⟩ [.string nm, .int .i64 10, .int .i64 0, .bool false, .slice x4 bs.length y4, .slice none 0 0, .slice none 0 0, .slice none 0 0] y0) := by
  have q := bytes_own nm 10 HROW.out
  have q2 := q.setOut (x := w.heap.size + 1) (i := 4) (v := .slice x4 bs.length y4) (fun b hb => by have := NE.out b hb; omega)
  rw [← HYY.out] at q2
  exact q2.more (Nat.le_refl _) (by rw [HYY.out]; simp)
 have d0 := (HD.out.below hb.out 0 _ rfl).1
 go_wp2_with fail
 rw [← HYY.out]
 clear HYY
 refine (accept_impl a rs cap ⟨nm, 10, 0, false, bs, [], [], []⟩ [.string nm, .int .i64 10, .int .i64 0, .bool false, .slice x4 bs.length y4, .slice none 0 0, .slice none 0 0, .slice none 0 0] J _ HC.out.line HC.out.len HC.out.room HC.out.nils (HC.out.shorts ⟨by show bs.length ≤ 1048576; omega, Nat.zero_le _, Nat.zero_le _, Nat.zero_le _⟩) (HC.out.spelts (spelt_plain _ _ _ _ hnm)) (HTW.out.below HBy.out).pow (HRDW.out.below HBy.out) HOy.out.is HOy.out.cap).mono ?_
 rintro e v1 ⟨hcase, hb9⟩
 replace HZy := Lib.hid (HZy.out.below hb9)
 replace HB := Lib.hid (HBy.out.trans (hb9.mono HBy.out.size))
 obtain ⟨z0, t0⟩ := HZy.out 0 _ rfl
 obtain ⟨z1, t1⟩ := HZy.out 1 _ rfl
 obtain ⟨z2, t2⟩ := HZy.out 2 _ rfl
 obtain ⟨z3, t3⟩ := HZy.out 3 _ rfl
 obtain ⟨z4, t4⟩ := HZy.out 4 _ rfl
 obtain ⟨z5, t5⟩ := HZy.out 5 _ rfl
 obtain ⟨z6, t6⟩ := HZy.out 6 _ rfl
 obtain ⟨z7, t7⟩ := HZy.out 7 _ rfl
 have hs9 := hb9.size
 have HO9 := Lib.hid ((HOy.out.below hb9).more (Nat.le_refl _) hs9)
 rcases hcase with ⟨rfl, hacc⟩ | ⟨rfl, hacc⟩
 ·have HA := Lib.hid hacc
  clear hacc HQ
  go_wp2
  (try simp only [Exit.inBlock, Exit.then])
  refine bodyPost_ret (v := .tuple #[.agg #[.string nm, .int .i64 10, .int .i64 0, .bool false, .slice x4 bs.length y4, .slice none 0 0, .slice none 0 0, .slice none 0 0], .bool true]) ?_ rfl ?_
  ·simp [results, Tryz.results92, go_sem, z0, z1, z2, z3, z4, z5, z6, z7]
  ·exact ⟨_, _, _, rfl, ((((((((HO9.out.setOut (x := w.heap.size + 2) (i := 0) (fun b hb => by have := NE.out b hb; omega)).setOut (x := w.heap.size + 2) (i := 1) (fun b hb => by have := NE.out b hb; omega)).setOut (x := w.heap.size + 2) (i := 2) (fun b hb => by have := NE.out b hb; omega)).setOut (x := w.heap.size + 2) (i := 3) (fun b hb => by have := NE.out b hb; omega)).setOut (x := w.heap.size + 2) (i := 4) (fun b hb => by have := NE.out b hb; omega)).setOut (x := w.heap.size + 2) (i := 5) (fun b hb => by have := NE.out b hb; omega)).setOut (x := w.heap.size + 2) (i := 6) (fun b hb => by have := NE.out b hb; omega)).setOut (x := w.heap.size + 2) (i := 7) (fun b hb => by have := NE.out b hb; omega)).more (Nat.le_refl _) (by simp), ((((((((HB.out.setCell (p := ⟨w.heap.size + 2, 0, none⟩) (by show w.heap.size ≤ w.heap.size + 2; omega) _).setCell (p := ⟨w.heap.size + 2, 1, none⟩) (by show w.heap.size ≤ w.heap.size + 2; omega) _).setCell (p := ⟨w.heap.size + 2, 2, none⟩) (by show w.heap.size ≤ w.heap.size + 2; omega) _).setCell (p := ⟨w.heap.size + 2, 3, none⟩) (by show w.heap.size ≤ w.heap.size + 2; omega) _).setCell (p := ⟨w.heap.size + 2, 4, none⟩) (by show w.heap.size ≤ w.heap.size + 2; omega) _).setCell (p := ⟨w.heap.size + 2, 5, none⟩) (by show w.heap.size ≤ w.heap.size + 2; omega) _).setCell (p := ⟨w.heap.size + 2, 6, none⟩) (by show w.heap.size ≤ w.heap.size + 2; omega) _).setCell (p := ⟨w.heap.size + 2, 7, none⟩) (by show w.heap.size ≤ w.heap.size + 2; omega) _), fun b hb => .inr (by have := NE.out b hb; omega), fun _ => HA.out, (fun e => by cases e)⟩
 ·have HA := Lib.hid hacc
  clear hacc
  have HNO : Hid (∀ y (m : Nat), Acc rs J y → ¬ BadF rs nm 10 F y m) := fun y m hy hbad => HA.out (HQ.out y m hy hbad ▸ hy)
  unfold zeroCs
  go_wp2
  (try simp only [Exit.inBlock, Exit.then])
  refine bodyPost_ret (v := .tuple #[.agg #[.string ⟨#[]⟩, .int .i64 0, .int .i64 0, .bool false, .slice none 0 0, .slice none 0 0, .slice none 0 0, .slice none 0 0], .bool false]) ?_ rfl ?_
  ·simp [results, Tryz.results92, go_sem, z0, z1, z2, z3, z4, z5, z6, z7]
  ·exact ⟨_, _, _, rfl, zero_own lo _ _, ((((((((HB.out.setCell (p := ⟨w.heap.size + 2, 0, none⟩) (by show w.heap.size ≤ w.heap.size + 2; omega) _).setCell (p := ⟨w.heap.size + 2, 1, none⟩) (by show w.heap.size ≤ w.heap.size + 2; omega) _).setCell (p := ⟨w.heap.size + 2, 2, none⟩) (by show w.heap.size ≤ w.heap.size + 2; omega) _).setCell (p := ⟨w.heap.size + 2, 3, none⟩) (by show w.heap.size ≤ w.heap.size + 2; omega) _).setCell (p := ⟨w.heap.size + 2, 4, none⟩) (by show w.heap.size ≤ w.heap.size + 2; omega) _).setCell (p := ⟨w.heap.size + 2, 5, none⟩) (by show w.heap.size ≤ w.heap.size + 2; omega) _).setCell (p := ⟨w.heap.size + 2, 6, none⟩) (by show w.heap.size ≤ w.heap.size + 2; omega) _).setCell (p := ⟨w.heap.size + 2, 7, none⟩) (by show w.heap.size ≤ w.heap.size + 2; omega) _), (fun b hb => by simp [sliceBlk] at hb), (fun e => by cases e), fun _ => ⟨rfl, rfl, HNO.out⟩⟩
set_option maxHeartbeats 2000000 in
theorem pf_kids (rs : List RuleV) (J : ByteArray) (a : Option Addr) (cap lo : Nat) (nm F : ByteArray) (k : Int) (w : World) (cx : Ctx rs J a cap) (hF : F.size ≤ 1048576) (hnm : nm.size ≤ 1048576) (hlo : lo ≤ w.heap.size) (ht : Tabs w) (hrd : RdC a rs w) (hk : 4 ≤ k ∧ k ≤ 9) :
  Calls Tryz.prog 92 #[.agg #[.slice a rs.length cap], .agg #[.string nm, .int .i64 k, .int .i64 0, .bool false, .slice none 0 0, .slice none 0 0, .slice none 0 0, .slice none 0 0], .string F, .string J] w (ReadOut1 rs J lo [.string nm, .int .i64 k, .int .i64 0, .bool false, .slice none 0 0, .slice none 0 0, .slice none 0 0, .slice none 0 0] (BadF rs nm k F) w) := by
 have e1 : (k == 1) = false := by simp; omega
 have e3 : (k == 3) = false := by simp; omega
 have e2 : (k == 2) = false := by simp; omega
 have e10 : (k == 10) = false := by simp; omega
 obtain ⟨w0, hw0⟩ : ∃ w0, w0 = ((w.alloc (.cells #[.slice a rs.length cap] 26)).alloc (.cells #[.string nm, .int .i64 k, .int .i64 0, .bool false, .slice none 0 0, .slice none 0 0, .slice none 0 0, .slice none 0 0] 59)).alloc (.cells #[.string ⟨#[]⟩, .int .i64 0, .int .i64 0, .bool false, .slice none 0 0, .slice none 0 0, .slice none 0 0, .slice none 0 0] 59) := ⟨_, rfl⟩
 have hB0 : Below w.heap.size w w0 := by subst hw0; exact (((Below.refl _ w).alloc (Nat.le_refl _) _).alloc (by simp) _).alloc (by simp; omega) _
 have hz0 : w0.heap.size = w.heap.size + 3 := by subst hw0; simp
 have hD : CellsAt w.heap.size [.slice a rs.length cap] w0 := by subst hw0; exact ((CellsAt.new w [.slice a rs.length cap] 26).below ((Below.refl _ _).alloc (Nat.le_refl _) _)).below ((Below.refl _ _).alloc (Nat.le_refl _) _)
 have hR : CellsAt (w.heap.size + 1) [.string nm, .int .i64 k, .int .i64 0, .bool false, .slice none 0 0, .slice none 0 0, .slice none 0 0, .slice none 0 0] w0 := by
  subst hw0
  have h1 := CellsAt.new (w.alloc (.cells #[.slice a rs.length cap] 26)) [.string nm, .int .i64 k, .int .i64 0, .bool false, .slice none 0 0, .slice none 0 0, .slice none 0 0, .slice none 0 0] 59
  simp only [World.size_alloc] at h1
  exact h1.below ((Below.refl _ _).alloc (Nat.le_refl _) _)
 have hZ : CellsAt (w.heap.size + 2) zeroCs w0 := by
  subst hw0
  have h1 := CellsAt.new ((w.alloc (.cells #[.slice a rs.length cap] 26)).alloc (.cells #[.string nm, .int .i64 k, .int .i64 0, .bool false, .slice none 0 0, .slice none 0 0, .slice none 0 0, .slice none 0 0] 59)) zeroCs 59
  simpa [zeroCs] using h1
 have hb := Lib.hid (Below.refl w0.heap.size w0)
 have HB := Lib.hid hB0
 have HD := Lib.hid hD
 have HR := Lib.hid hR
 have HZ := Lib.hid hZ
 have HW := Lib.hid hw0
 have HTW := Lib.hid ht
 have HC := Lib.hid cx
 have HRDW := Lib.hid hrd
 clear hB0 hD hR hZ hw0 ht cx hrd
 go_enter Tryz.func92, Tryz.ntmps92
 go_upto_region 2 with fail
 rw [← HW.out]
 clear HW
 obtain ⟨r0, -⟩ := HR.out.below hb.out 0 _ rfl
 obtain ⟨r1, -⟩ := HR.out.below hb.out 1 _ rfl
 obtain ⟨r2, -⟩ := HR.out.below hb.out 2 _ rfl
 obtain ⟨r3, -⟩ := HR.out.below hb.out 3 _ rfl
 obtain ⟨r4, -⟩ := HR.out.below hb.out 4 _ rfl
 obtain ⟨r5, -⟩ := HR.out.below hb.out 5 _ rfl
 obtain ⟨r6, -⟩ := HR.out.below hb.out 6 _ rfl
 obtain ⟨r7, -⟩ := HR.out.below hb.out 7 _ rfl
 have d0 := (HD.out.below hb.out 0 _ rfl).1
 go_wp2_with fail
 refine (kids_of (lo := lo) HC.out F.size ⟨nm, k, 0, false, [], [], [], []⟩ [.string nm, .int .i64 k, .int .i64 0, .bool false, .slice none 0 0, .slice none 0 0, .slice none 0 0, .slice none 0 0] F 0 w0 (Nat.le_refl _) hF ⟨Nat.zero_le _, Nat.zero_le _, Nat.zero_le _, Nat.zero_le _, hnm, fun s hs => by cases hs⟩ (Nat.zero_le _) (by omega) (Nat.zero_le _) (HTW.out.below HB.out) (HRDW.out.below HB.out) (plain_own lo 0 nm k 0 false w0)).mono ?_
 rintro e w5 ⟨f, fcs, ok, rfl, hof, hb5, hbl5, hyes, hno⟩
 obtain ⟨g4, h4, g5, h5, g6, h6, g7, h7, rfl, -⟩ := id hof
 have hs5 := hb5.size
 replace HB := Lib.hid (HB.out.trans (hb5.mono HB.out.size))
 replace hb := Lib.hid (hb.out.trans (hb5.mono hb.out.size))
 have HO5 := Lib.hid hof
 have NE : Hid (∀ b ∈ ([.string f.name, .int .i64 f.kind, .int .i64 f.size, .bool f.little, .slice g4 f.bytes.length h4, .slice g5 f.names.length h5, .slice g6 f.tags.length h6, .slice g7 f.kids.length h7] : List Value).flatMap sliceBlk, w0.heap.size ≤ b) := fun b hb => by
  rcases hbl5 b hb with q | q
  ·simp [sliceBlk] at q
  ·exact q
 have HYES := Lib.hid hyes
 have HNO : Hid (ok = false → f = zeroR ∧ ([.string f.name, .int .i64 f.kind, .int .i64 f.size, .bool f.little, .slice g4 f.bytes.length h4, .slice g5 f.names.length h5, .slice g6 f.tags.length h6, .slice g7 f.kids.length h7] : List Value) = zeroCs ∧ ∀ y (m : Nat), Acc rs J y → ¬ BadF rs nm k F y m) := fun e => by
  obtain ⟨q1, q2, q3⟩ := hno e
  refine ⟨q1, q2, fun y m hy ⟨n1, n2, n3⟩ => q3 y 0 hy ?_⟩
  have q := path_start HC.out.all hy (by omega)
  rw [n1, n2, ← n3] at q
  exact q
 clear hof hb5 hbl5 hyes hno r0 r1 r2 r3 r4 r5 r6 r7 d0
 obtain ⟨z0, t0⟩ := HZ.out.below hb.out 0 _ rfl
 obtain ⟨z1, t1⟩ := HZ.out.below hb.out 1 _ rfl
 obtain ⟨z2, t2⟩ := HZ.out.below hb.out 2 _ rfl
 obtain ⟨z3, t3⟩ := HZ.out.below hb.out 3 _ rfl
 obtain ⟨z4, t4⟩ := HZ.out.below hb.out 4 _ rfl
 obtain ⟨z5, t5⟩ := HZ.out.below hb.out 5 _ rfl
 obtain ⟨z6, t6⟩ := HZ.out.below hb.out 6 _ rfl
 obtain ⟨z7, t7⟩ := HZ.out.below hb.out 7 _ rfl
 go_wp2
 (try simp only [Exit.inBlock, Exit.then])
 refine bodyPost_ret (v := .tuple #[.agg #[.string f.name, .int .i64 f.kind, .int .i64 f.size, .bool f.little, .slice g4 f.bytes.length h4, .slice g5 f.names.length h5, .slice g6 f.tags.length h6, .slice g7 f.kids.length h7], .bool ok]) ?_ rfl ?_
 ·simp [results, Tryz.results92, go_sem, z0, z1, z2, z3, z4, z5, z6, z7]
 ·exact ⟨_, _, _, rfl, ((((((((HO5.out.setOut (x := w.heap.size + 2) (i := 0) (fun b hb => by have := NE.out b hb; omega)).setOut (x := w.heap.size + 2) (i := 1) (fun b hb => by have := NE.out b hb; omega)).setOut (x := w.heap.size + 2) (i := 2) (fun b hb => by have := NE.out b hb; omega)).setOut (x := w.heap.size + 2) (i := 3) (fun b hb => by have := NE.out b hb; omega)).setOut (x := w.heap.size + 2) (i := 4) (fun b hb => by have := NE.out b hb; omega)).setOut (x := w.heap.size + 2) (i := 5) (fun b hb => by have := NE.out b hb; omega)).setOut (x := w.heap.size + 2) (i := 6) (fun b hb => by have := NE.out b hb; omega)).setOut (x := w.heap.size + 2) (i := 7) (fun b hb => by have := NE.out b hb; omega)).more (Nat.le_refl _) (by simp), ((((((((HB.out.setCell (p := ⟨w.heap.size + 2, 0, none⟩) (by show w.heap.size ≤ w.heap.size + 2; omega) _).setCell (p := ⟨w.heap.size + 2, 1, none⟩) (by show w.heap.size ≤ w.heap.size + 2; omega) _).setCell (p := ⟨w.heap.size + 2, 2, none⟩) (by show w.heap.size ≤ w.heap.size + 2; omega) _).setCell (p := ⟨w.heap.size + 2, 3, none⟩) (by show w.heap.size ≤ w.heap.size + 2; omega) _).setCell (p := ⟨w.heap.size + 2, 4, none⟩) (by show w.heap.size ≤ w.heap.size + 2; omega) _).setCell (p := ⟨w.heap.size + 2, 5, none⟩) (by show w.heap.size ≤ w.heap.size + 2; omega) _).setCell (p := ⟨w.heap.size + 2, 6, none⟩) (by show w.heap.size ≤ w.heap.size + 2; omega) _).setCell (p := ⟨w.heap.size + 2, 7, none⟩) (by show w.heap.size ≤ w.heap.size + 2; omega) _), fun b hb => .inr (by have := NE.out b hb; omega), HYES.out, HNO.out⟩
theorem pf_all (rs : List RuleV) (J : ByteArray) (a : Option Addr) (cap lo : Nat) (nm F : ByteArray) (k : Nat) (w : World) (cx : Ctx rs J a cap) (hF : F.size ≤ 1048576) (hnm : nm.size ≤ 1048576) (hlo : lo ≤ w.heap.size) (ht : Tabs w) (hrd : RdC a rs w) (hk : 1 ≤ k ∧ k ≤ 10) :
  Calls Tryz.prog 92 #[.agg #[.slice a rs.length cap], .agg #[.string nm, .int .i64 (k : Int), .int .i64 0, .bool false, .slice none 0 0, .slice none 0 0, .slice none 0 0, .slice none 0 0], .string F, .string J] w (ReadOut1 rs J lo [.string nm, .int .i64 (k : Int), .int .i64 0, .bool false, .slice none 0 0, .slice none 0 0, .slice none 0 0, .slice none 0 0] (BadF rs nm (k : Int) F) w) := by
 by_cases h9 : 4 ≤ k ∧ k ≤ 9
 ·exact pf_kids rs J a cap lo nm F (k : Int) w cx hF hnm hlo ht hrd (by omega)
 ·rcases (by omega : k = 1 ∨ k = 2 ∨ k = 3 ∨ k = 10) with rfl | rfl | rfl | rfl
  ·exact pf_1 rs J a cap lo nm F w cx hF hnm hlo ht hrd
  ·exact pf_2 rs J a cap lo nm F w cx hF hnm hlo ht hrd
  ·exact pf_3 rs J a cap lo nm F w cx hF hnm hlo ht hrd
  ·exact pf_10 rs J a cap lo nm F w cx hF hnm hlo ht hrd
def KindOut (x : ByteArray) (d : Int) (w : World) (e : Ending) (w' : World) : Prop :=
 ((∃ k : Nat, 1 ≤ k ∧ k ≤ 10 ∧ kindName (k : Int) = x ∧ e = .returned (.tuple #[.int .i64 ((k : Int) - d), .bool true])) ∨ ((∀ k : Nat, 1 ≤ k → k ≤ 10 → kindName (k : Int) ≠ x) ∧ e = .returned (.tuple #[.int .i64 0, .bool false]))) ∧ Below w.heap.size w w'
set_option maxHeartbeats 1000000 in
theorem findname_kind (b : Nat) (x : ByteArray) (w : World) (h : ∀ j, j < 10 → w.cell? ⟨b, j, none⟩ = some (.int .i64 ((j : Int) + 1))) :
  Calls Tryz.prog 115 #[.slice (some ⟨b, 0, none⟩) 10 10, .func (.func 45) #[] #[], .string x] w (KindOut x 1 w) := by
 have H := Lib.hid h
 clear h
 go_enter Tryz.func115, Tryz.ntmps115
 go_wp2
 go_loopw [12] (fun i W => ∃ k : Nat, k ≤ 10 ∧ i = .int .i64 k ∧ Hid (∀ j : Nat, 1 ≤ j → j ≤ k → kindName (j : Int) ≠ x) ∧ Hid (Below w.heap.size w W)) (fun i _ => 10 - (intOf i).toNat)
 case atStart => exact ⟨0, Nat.zero_le _, rfl, fun j h1 h2 => by omega, Below.refl _ _⟩
 case round =>
  obtain ⟨k, hk, rfl, hf, hb⟩ := hrel
  have k0 : (0 : Int) ≤ (k : Int) := by omega
  by_cases hlt : k < 10
  ·have k1 : (k : Int) < 10 := by omega
   have hc := (hb.out.cell (cell_lt (H.out k hlt))).trans (H.out k hlt)
   have hyes : kindName ((k : Int) + 1) = x → Hid (∃ q : Nat, 1 ≤ q ∧ q ≤ 10 ∧ kindName (q : Int) = x ∧ (Ending.returned (.tuple #[.int .i64 (k : Int), .bool true]) = .returned (.tuple #[.int .i64 ((q : Int) - 1), .bool true]))) := fun hx => ⟨k + 1, by omega, by omega, by rw [← hx]; rfl, by congr; omega⟩
   have hno : kindName ((k : Int) + 1) ≠ x → Hid (∀ j : Nat, 1 ≤ j → j ≤ k + 1 → kindName (j : Int) ≠ x) := fun hx j h1 h2 => by
    rcases Nat.lt_or_ge k j with h3 | h3
    ·have : j = k + 1 := by omega
     subst this
     exact hx
    ·exact hf.out j h1 h3
   go_wp2_with fail
   refine (kind_impl ((k : Int) + 1) _).mono ?_
   rintro e w2 ⟨rfl, hb2⟩
   replace hb := Lib.hid (hb.out.trans (hb2.mono hb.out.size))
   clear hb2 hc
   generalize kindName ((k : Int) + 1) = y at *
   by_cases hx : y = x
   ·have g1 := str_eq hx
    have R := hyes hx
    clear hx hyes hno
    go_wp2
    go_ret2
    exact ⟨.inl R.out, hb.out⟩
   ·have g1 := str_ne hx
    have R := hno hx
    clear hx hyes hno
    go_wp2
    go_roundw
    case rel => exact ⟨k + 1, by omega, by go_num, R, hb⟩
    case measure => simp [intOf]; omega
  ·have k1 : ¬ (k : Int) < 10 := by omega
   obtain rfl : k = 10 := by omega
   go_wp2
   go_ret2
   exact ⟨.inr ⟨hf.out, rfl⟩, hb.out⟩
set_option maxHeartbeats 1000000 in
theorem pkind_impl (x : ByteArray) (w : World) : Calls Tryz.prog 91 #[.string x] w (KindOut x 0 w) := by
 obtain ⟨w0, hw0⟩ : ∃ w0, w0 = w.alloc (.cells #[.int .i64 1, .int .i64 2, .int .i64 3, .int .i64 4, .int .i64 5, .int .i64 6, .int .i64 7, .int .i64 8, .int .i64 9, .int .i64 10] 3) := ⟨_, rfl⟩
 have hB : Below w.heap.size w w0 := by subst hw0; exact (Below.refl _ _).alloc (Nat.le_refl _) _
 have hX : CellsAt w.heap.size [.int .i64 1, .int .i64 2, .int .i64 3, .int .i64 4, .int .i64 5, .int .i64 6, .int .i64 7, .int .i64 8, .int .i64 9, .int .i64 10] w0 := by subst hw0; exact CellsAt.new w _ _
 have hc : ∀ j, j < 10 → w0.cell? ⟨w.heap.size, j, none⟩ = some (.int .i64 ((j : Int) + 1)) := fun j hj => by
  rcases (by omega : j = 0 ∨ j = 1 ∨ j = 2 ∨ j = 3 ∨ j = 4 ∨ j = 5 ∨ j = 6 ∨ j = 7 ∨ j = 8 ∨ j = 9) with rfl | rfl | rfl | rfl | rfl | rfl | rfl | rfl | rfl | rfl <;> exact (hX _ _ rfl).1
 have HC := Lib.hid hc
 have HB := Lib.hid hB
 have HW := Lib.hid hw0
 clear hw0 hB hX hc
 go_enter Tryz.func91, Tryz.ntmps91
 go_wp2_with fail
 rw [← HW.out]
 clear HW
 refine (findname_kind w.heap.size x w0 HC.out).mono ?_
 rintro e w1 ⟨hcase, hb1⟩
 have HB1 := Lib.hid (HB.out.trans (hb1.mono HB.out.size))
 rcases hcase with ⟨k, h1, h2, hx, rfl⟩ | ⟨hn, rfl⟩
 ·obtain ⟨j, rfl⟩ : ∃ j, k = j + 1 := ⟨k - 1, by omega⟩
  have hcell := (hb1.cell (cell_lt (HC.out j (by omega)))).trans (HC.out j (by omega))
  have R : Hid (∃ q : Nat, 1 ≤ q ∧ q ≤ 10 ∧ kindName (q : Int) = x ∧ (Ending.returned (.tuple #[.int .i64 ((j : Int) + 1), .bool true]) = .returned (.tuple #[.int .i64 ((q : Int) - 0), .bool true]))) := ⟨j + 1, h1, h2, hx, by simp⟩
  have e1 : (((j + 1 : Nat) : Int) - 1) = (j : Int) := by omega
  have j0 : (0 : Int) ≤ (j : Int) := by omega
  have j1 : (j : Int) < 10 := by omega
  rw [e1]
  clear hb1 hx e1
  go_wp2
  go_ret2
  exact ⟨.inl R.out, HB1.out⟩
 ·have R := Lib.hid hn
  clear hn hb1
  go_wp2
  go_ret2
  exact ⟨.inr ⟨R.out, rfl⟩, HB1.out⟩
theorem joinL_plus (c : UInt8) : ∀ {l : List (List UInt8)}, l ≠ [] → (joinL [c] l).length + 1 = (l.map fun x => x.length + 1).sum
 | [], h => absurd rfl h
 | [x], _ => by simp [joinL]
 | x :: y :: r, _ => by
  have ih := joinL_plus c (l := y :: r) (by simp)
  rw [joinL_cons _ _ (by simp), List.length_append, List.length_append, List.map_cons, List.sum_cons, ← ih]
  simp; omega
theorem sum_filter (q : List UInt8 → Bool) (l : List (List UInt8)) : ((l.filter q).map fun x => x.length + 1).sum ≤ (l.map fun x => x.length + 1).sum := by
 induction l with
 | nil => simp
 | cons x r ih =>
  rw [List.filter_cons]
  split
  ·simp only [List.map_cons, List.sum_cons]; omega
  ·simp only [List.map_cons, List.sum_cons]; omega
def spaced (s : ByteArray) : ByteArray := joinS ⟨#[32]⟩ (wordsS s)
theorem spaced_le (s : ByteArray) : (spaced s).size ≤ s.size := by
 unfold spaced
 rw [joinS_size]
 have e1 : (wordsS s).map lst = (splitL 32 (lst s)).filter (fun x => decide (x ≠ [])) := by
  unfold wordsS fullS parts txts
  rw [List.filter_map, List.map_map]
  have e2 : (lst ∘ txt) = (id : List UInt8 → List UInt8) := funext fun x => lst_txt x
  rw [e2, List.map_id]
  apply List.filter_congr
  intro x _
  simp only [Function.comp]
  congr 1
  exact propext ⟨fun h e => h (by rw [e]; rfl), fun h e => h (by have := congrArg lst e; rwa [lst_txt] at this)⟩
 rw [e1]
 have h1 := joinL_plus 32 (splitL_ne 32 (lst s))
 rw [join_split, lst_length] at h1
 by_cases h0 : (splitL 32 (lst s)).filter (fun x => decide (x ≠ [])) = []
 ·rw [h0]; exact Nat.zero_le _
 ·have h2 := joinL_plus 32 h0
  have h3 := sum_filter (fun x => decide (x ≠ [])) (splitL 32 (lst s))
  show (joinL [32] _).length ≤ _
  omega
theorem words_lens1 (s : ByteArray) : (wordsS s).length ≤ s.size + 1 := by
 have h := parts_lens 32 s
 have h2 := fullS_length (parts 32 s) (parts 32 s).length
 rw [List.take_length] at h2
 exact Nat.le_trans h2 h
def RuleRead (rs : List RuleV) (J : ByteArray) (w : World) (e : Ending) (w' : World) : Prop :=
 ∃ r' cs' ok, e = .returned (.tuple #[.agg cs'.toArray, .bool ok]) ∧ OwnRule w.heap.size w'.heap.size r' cs' w' ∧ Below w.heap.size w w' ∧ (ok = true → Acc rs J r') ∧ (ok = false → r' = zeroR ∧ cs' = zeroCs ∧ ∀ y, ¬ Acc rs J y)
structure Good (rs : List RuleV) (a : Option Addr) (cap : Nat) : Prop where
 all : allV (kindI rs) rs
 len : rs.length ≤ 1048575
 room : rs.length ≤ cap
 nils : a = none → cap = 0
 short : ∀ r ∈ rs, Short r
 spelt : ∀ r ∈ rs, Spelt r
set_option maxHeartbeats 4000000 in
theorem prule_impl (a : Option Addr) (rs : List RuleV) (cap : Nat) (line : ByteArray) (w : World) (gd : Good rs a cap) (hs : line.size ≤ 1048576) (ht : Tabs w) (hrd : RdC a rs w) :
  Calls Tryz.prog 50 #[.agg #[.slice a rs.length cap], .string line] w (RuleRead rs (spaced line) w) := by
 obtain ⟨w0, hw0⟩ : ∃ w0, w0 = (w.alloc (.cells #[.slice a rs.length cap] 26)).alloc (.cells #[.string ⟨#[]⟩, .int .i64 0, .int .i64 0, .bool false, .slice none 0 0, .slice none 0 0, .slice none 0 0, .slice none 0 0] 59) := ⟨_, rfl⟩
 have hB0 : Below w.heap.size w w0 := by subst hw0; exact ((Below.refl _ w).alloc (Nat.le_refl _) _).alloc (by simp) _
 have hz0 : w0.heap.size = w.heap.size + 2 := by subst hw0; simp
 have hD : CellsAt w.heap.size [.slice a rs.length cap] w0 := by subst hw0; exact (CellsAt.new w _ _).below ((Below.refl _ _).alloc (Nat.le_refl _) _)
 have hZ : CellsAt (w.heap.size + 1) zeroCs w0 := by
  subst hw0
  have h1 := CellsAt.new (w.alloc (.cells #[.slice a rs.length cap] 26)) zeroCs 59
  simpa [zeroCs] using h1
 have hb := Lib.hid (Below.refl w0.heap.size w0)
 have HB := Lib.hid hB0
 have HD := Lib.hid hD
 have HZ := Lib.hid hZ
 have HW := Lib.hid hw0
 have HTW := Lib.hid ht
 have HG := Lib.hid gd
 have HRDW := Lib.hid hrd
 have hJz := spaced_le line
 have hwl := words_lens1 line
 obtain ⟨J, hJ⟩ : ∃ J, J = spaced line := ⟨_, rfl⟩
 rw [← hJ] at hJz ⊢
 have HJ : Hid (J = joinS ⟨#[32]⟩ (wordsS line)) := hJ
 clear hB0 hD hZ hw0 ht gd hrd hJ
 go_enter Tryz.func50, Tryz.ntmps50
 go_wp2_with fail
 rw [← HW.out]
 clear HW
 refine (words_impl line _ (by omega)).mono ?_
 rintro e w1 ⟨xw, cw, rfl, hrow, hb1⟩
 replace HB := Lib.hid (HB.out.trans (hb1.mono HB.out.size))
 replace hb := Lib.hid (hb.out.trans (hb1.mono hb.out.size))
 have HROW := Lib.hid hrow
 obtain ⟨ws, hws⟩ : ∃ ws, ws = wordsS line := ⟨_, rfl⟩
 rw [← hws] at hwl HROW HJ ⊢
 clear hb1 hrow hws
 go_wp2_with fail
 refine (join_impl xw ws cw ⟨#[32]⟩ _ (by omega) HROW.out.2.1 (by rw [← HJ.out]; omega) HROW.out.rd).mono ?_
 rintro e w2 ⟨rfl, hb1⟩
 rw [← HJ.out]
 replace HB := Lib.hid (HB.out.trans (hb1.mono HB.out.size))
 replace hb := Lib.hid (hb.out.trans (hb1.mono hb.out.size))
 clear hb1 HROW HJ
 go_wp2_with fail
 refine (cut32I J _ (by omega)).mono ?_
 rintro e w3 ⟨rfl, hb1⟩
 replace HB := Lib.hid (HB.out.trans (hb1.mono HB.out.size))
 replace hb := Lib.hid (hb.out.trans (hb1.mono hb.out.size))
 have hc1 := cutA_le 32 J
 have hc2 := cutB_le 32 J
 have hc3 := cutB_le 32 (cutB 32 J)
 have hne : J = ⟨#[]⟩ → cutA 32 (cutB 32 J) = ⟨#[]⟩ := fun e => by rw [e]; rfl
 have HCUT : Hid (∀ y, Acc rs J y → cutA 32 J = y.name ∧ cutA 32 (cutB 32 J) = kindName y.kind ∧ cutB 32 (cutB 32 J) = restText rs y 0) := fun y hy => hy.cut HG.out.all
 have HNE := Lib.hid hne
 clear hb1 hne
 generalize cutA 32 J = nm at *
 generalize cutK 32 J = k1 at *
 generalize cutB 32 J = B1 at *
 go_wp2_with fail
 refine (cut32I B1 _ (by omega)).mono ?_
 rintro e w4 ⟨rfl, hb1⟩
 replace HB := Lib.hid (HB.out.trans (hb1.mono HB.out.size))
 replace hb := Lib.hid (hb.out.trans (hb1.mono hb.out.size))
 clear hb1
 generalize cutA 32 B1 = kn at *
 generalize cutK 32 B1 = k2 at *
 generalize cutB 32 B1 = F at *
 go_wp2_with fail
 refine (pkind_impl kn _).mono ?_
 rintro e w5 ⟨hcase, hb1⟩
 replace HB := Lib.hid (HB.out.trans (hb1.mono HB.out.size))
 replace hb := Lib.hid (hb.out.trans (hb1.mono hb.out.size))
 clear hb1
 rcases hcase with ⟨k, h1, h2, hkn, rfl⟩ | ⟨hno, rfl⟩
 ·have cx : Ctx rs J a cap := ⟨HG.out.all, fun e => by have q := HNE.out e; rw [← hkn] at q; exact (kind_plain (k := (k : Int)) (by omega)).1 q, HG.out.len, HG.out.room, HG.out.nils, HG.out.short, HG.out.spelt⟩
  have HC := Lib.hid cx
  have HBAD : Hid (∀ y, Acc rs J y → BadF rs nm (k : Int) F y 0) := fun y hy => by
   obtain ⟨q1, q2, q3⟩ := HCUT.out y hy
   have hv := (hy.good HG.out.all).2.2.2
   exact ⟨q1.symm, kindName_inj (good_kind hv) (by omega) (by rw [← q2, hkn]), q3⟩
  rw [show ((k : Int) - 0) = (k : Int) from by omega]
  have d0 := (HD.out.below hb.out 0 _ rfl).1
  have hsb := hb.out.size
  clear cx hkn HNE HCUT
  go_wp2_with fail
  refine (pf_all rs J a cap w.heap.size nm F k _ HC.out (by omega) (by omega) HB.out.size (HTW.out.below HB.out) (HRDW.out.below HB.out) ⟨h1, h2⟩).mono ?_
  rintro e w6 ⟨f, fcs, ok, rfl, hof, hb1, hbl, hyes, hnot⟩
  obtain ⟨g4, h4, g5, h5, g6, h6, g7, h7, rfl, -⟩ := id hof
  have HO := Lib.hid hof
  have NE : Hid (∀ b ∈ ([.string f.name, .int .i64 f.kind, .int .i64 f.size, .bool f.little, .slice g4 f.bytes.length h4, .slice g5 f.names.length h5, .slice g6 f.tags.length h6, .slice g7 f.kids.length h7] : List Value).flatMap sliceBlk, b ≠ w.heap.size + 1) := fun b hb9 => by
   rcases hbl b hb9 with q | q
   ·simp [sliceBlk] at q
   ·omega
  have HYES := Lib.hid hyes
  have HNO : Hid (ok = false → f = zeroR ∧ ([.string f.name, .int .i64 f.kind, .int .i64 f.size, .bool f.little, .slice g4 f.bytes.length h4, .slice g5 f.names.length h5, .slice g6 f.tags.length h6, .slice g7 f.kids.length h7] : List Value) = zeroCs ∧ ∀ y, ¬ Acc rs J y) := fun e => by
   obtain ⟨q1, q2, q3⟩ := hnot e
   exact ⟨q1, q2, fun y hy => q3 y 0 hy (HBAD.out y hy)⟩
  replace HB := Lib.hid (HB.out.trans (hb1.mono HB.out.size))
  replace hb := Lib.hid (hb.out.trans (hb1.mono hb.out.size))
  clear hof hb1 hbl hyes hnot HBAD d0
  obtain ⟨z0, t0⟩ := HZ.out.below hb.out 0 _ rfl
  obtain ⟨z1, t1⟩ := HZ.out.below hb.out 1 _ rfl
  obtain ⟨z2, t2⟩ := HZ.out.below hb.out 2 _ rfl
  obtain ⟨z3, t3⟩ := HZ.out.below hb.out 3 _ rfl
  obtain ⟨z4, t4⟩ := HZ.out.below hb.out 4 _ rfl
  obtain ⟨z5, t5⟩ := HZ.out.below hb.out 5 _ rfl
  obtain ⟨z6, t6⟩ := HZ.out.below hb.out 6 _ rfl
  obtain ⟨z7, t7⟩ := HZ.out.below hb.out 7 _ rfl
  go_wp2
  (try simp only [Exit.inBlock, Exit.then])
  refine bodyPost_ret (v := .tuple #[.agg #[.string f.name, .int .i64 f.kind, .int .i64 f.size, .bool f.little, .slice g4 f.bytes.length h4, .slice g5 f.names.length h5, .slice g6 f.tags.length h6, .slice g7 f.kids.length h7], .bool ok]) ?_ rfl ?_
  ·simp [results, Tryz.results50, go_sem, z0, z1, z2, z3, z4, z5, z6, z7]
  ·exact ⟨_, _, _, rfl, ((((((((HO.out.setOut (x := w.heap.size + 1) (i := 0) (fun b hb9 => NE.out b hb9)).setOut (x := w.heap.size + 1) (i := 1) (fun b hb9 => NE.out b hb9)).setOut (x := w.heap.size + 1) (i := 2) (fun b hb9 => NE.out b hb9)).setOut (x := w.heap.size + 1) (i := 3) (fun b hb9 => NE.out b hb9)).setOut (x := w.heap.size + 1) (i := 4) (fun b hb9 => NE.out b hb9)).setOut (x := w.heap.size + 1) (i := 5) (fun b hb9 => NE.out b hb9)).setOut (x := w.heap.size + 1) (i := 6) (fun b hb9 => NE.out b hb9)).setOut (x := w.heap.size + 1) (i := 7) (fun b hb9 => NE.out b hb9)).more (Nat.le_refl _) (by simp), ((((((((HB.out.setCell (p := ⟨w.heap.size + 1, 0, none⟩) (by show w.heap.size ≤ w.heap.size + 1; omega) _).setCell (p := ⟨w.heap.size + 1, 1, none⟩) (by show w.heap.size ≤ w.heap.size + 1; omega) _).setCell (p := ⟨w.heap.size + 1, 2, none⟩) (by show w.heap.size ≤ w.heap.size + 1; omega) _).setCell (p := ⟨w.heap.size + 1, 3, none⟩) (by show w.heap.size ≤ w.heap.size + 1; omega) _).setCell (p := ⟨w.heap.size + 1, 4, none⟩) (by show w.heap.size ≤ w.heap.size + 1; omega) _).setCell (p := ⟨w.heap.size + 1, 5, none⟩) (by show w.heap.size ≤ w.heap.size + 1; omega) _).setCell (p := ⟨w.heap.size + 1, 6, none⟩) (by show w.heap.size ≤ w.heap.size + 1; omega) _).setCell (p := ⟨w.heap.size + 1, 7, none⟩) (by show w.heap.size ≤ w.heap.size + 1; omega) _), HYES.out, HNO.out⟩
 ·have HNO : Hid (∀ y, ¬ Acc rs J y) := fun y hy => by
   obtain ⟨q1, q2, q3⟩ := HCUT.out y hy
   have hv := good_kind (hy.good HG.out.all).2.2.2
   refine hno y.kind.toNat (by omega) (by omega) ?_
   rw [show ((y.kind.toNat : Nat) : Int) = y.kind from by omega]
   exact q2.symm
  clear hno HCUT HNE
  obtain ⟨z0, t0⟩ := HZ.out.below hb.out 0 _ rfl
  obtain ⟨z1, t1⟩ := HZ.out.below hb.out 1 _ rfl
  obtain ⟨z2, t2⟩ := HZ.out.below hb.out 2 _ rfl
  obtain ⟨z3, t3⟩ := HZ.out.below hb.out 3 _ rfl
  obtain ⟨z4, t4⟩ := HZ.out.below hb.out 4 _ rfl
  obtain ⟨z5, t5⟩ := HZ.out.below hb.out 5 _ rfl
  obtain ⟨z6, t6⟩ := HZ.out.below hb.out 6 _ rfl
  obtain ⟨z7, t7⟩ := HZ.out.below hb.out 7 _ rfl
  go_wp2
  (try simp only [Exit.inBlock, Exit.then])
  refine bodyPost_ret (v := .tuple #[.agg #[.string ⟨#[]⟩, .int .i64 0, .int .i64 0, .bool false, .slice none 0 0, .slice none 0 0, .slice none 0 0, .slice none 0 0], .bool false]) ?_ rfl ?_
  ·simp [results, Tryz.results50, go_sem, z0, z1, z2, z3, z4, z5, z6, z7]
  ·exact ⟨_, _, _, rfl, zero_own _ _ _, ((((((((HB.out.setCell (p := ⟨w.heap.size + 1, 0, none⟩) (by show w.heap.size ≤ w.heap.size + 1; omega) _).setCell (p := ⟨w.heap.size + 1, 1, none⟩) (by show w.heap.size ≤ w.heap.size + 1; omega) _).setCell (p := ⟨w.heap.size + 1, 2, none⟩) (by show w.heap.size ≤ w.heap.size + 1; omega) _).setCell (p := ⟨w.heap.size + 1, 3, none⟩) (by show w.heap.size ≤ w.heap.size + 1; omega) _).setCell (p := ⟨w.heap.size + 1, 4, none⟩) (by show w.heap.size ≤ w.heap.size + 1; omega) _).setCell (p := ⟨w.heap.size + 1, 5, none⟩) (by show w.heap.size ≤ w.heap.size + 1; omega) _).setCell (p := ⟨w.heap.size + 1, 6, none⟩) (by show w.heap.size ≤ w.heap.size + 1; omega) _).setCell (p := ⟨w.heap.size + 1, 7, none⟩) (by show w.heap.size ≤ w.heap.size + 1; omega) _), (fun e => by cases e), fun _ => ⟨rfl, rfl, HNO.out⟩⟩
theorem OwnR.cells {lo hi : Nat} {a : Option Addr} {rs : List RuleV} {cap : Nat} {w : World} (h : OwnR lo hi a rs cap w) : ∃ css : List (List Value), css.length = rs.length ∧ CellsR a css w ∧ (∀ j (h : j < rs.length) (h' : j < css.length), OwnRule lo hi rs[j] css[j] w) ∧ (css.flatMap fun cs => cs.flatMap sliceBlk).Nodup ∧ rs.length ≤ cap ∧ (a = none → cap = 0) := by
 obtain ⟨css, hl, ho, hr, hc, hn⟩ := h
 have h8 : ∀ cs ∈ css, cs.length = 8 := fun cs hcs => by
  obtain ⟨j, hj, rfl⟩ := List.getElem_of_mem hcs
  exact (ho j (by omega) hj).length
 rcases hr with rfl | ⟨b, off, ha, _, _, hcell, hnd⟩
 ·have : css = [] := List.eq_nil_of_length_eq_zero (by simpa using hl)
  subst this
  exact ⟨[], rfl, ⟨h8, fun j hj => by simp at hj⟩, fun j hj => by simp at hj, by simp, hc, hn⟩
 ·exact ⟨css, hl, ⟨h8, fun j hj => ⟨b, off, ha, fun i v hv => (hcell j hj i v hv).1⟩⟩, ho, (List.nodup_cons.1 hnd).2, hc, hn⟩
theorem ownR_snoc {lo lo0 hi0 lo1 hi1 b c : Nat} {rs : List RuleV} {f : RuleV} {css : List (List Value)} {fcs : List Value} {W W' : World} (hl : css.length = rs.length) (ho : ∀ j (h : j < rs.length) (h' : j < css.length), OwnRule lo1 hi1 rs[j] css[j] W) (hn : (css.flatMap fun cs => cs.flatMap sliceBlk).Nodup) (hf : OwnRule lo0 hi0 f fcs W)
  (h01 : hi0 ≤ lo1) (hl0 : lo ≤ lo0) (hl1 : lo ≤ lo1) (hh : hi1 ≤ W.heap.size) (hh0 : hi0 ≤ W.heap.size) (hlw : lo ≤ W.heap.size) (h : RowsOut (css ++ [fcs]) W b c W') : OwnR lo W'.heap.size (some ⟨b, 0, none⟩) (rs ++ [f]) c W' := by
 obtain ⟨q1, q2, q3, q4, q5⟩ := h
 have hs := q5.size
 refine ⟨css ++ [fcs], by simp [hl], fun j hj hj' => ?_, .inr ⟨b, 0, rfl, by omega, q2, q4, ?_⟩, by simpa [hl] using q3, fun e => by cases e⟩
 ·by_cases hlt : j < rs.length
  ·rw [List.getElem_append_left hlt, List.getElem_append_left (by omega)]
   exact ((ho j hlt (by omega)).below q5).more hl1 (by omega)
  ·have e : j = rs.length := by simp at hj; omega
   subst e
   have e1 : (rs ++ [f])[rs.length] = f := by simp
   have e2 : (css ++ [fcs])[rs.length] = fcs := by simp [← hl]
   rw [e1, e2]
   exact (hf.below q5).more hl0 (by omega)
 ·obtain ⟨_, _, _, _, _, _, _, _, _, _, _, _, _, hnf, hrf⟩ := hf
  have hrc : ∀ x ∈ css.flatMap fun cs => cs.flatMap sliceBlk, lo1 ≤ x ∧ x < hi1 := fun x hx => by
   obtain ⟨c0, hc0, hx⟩ := List.mem_flatMap.1 hx
   obtain ⟨j, hj, rfl⟩ := List.getElem_of_mem hc0
   obtain ⟨_, _, _, _, _, _, _, _, _, _, _, _, _, _, h9⟩ := ho j (by omega) hj
   exact h9 x hx
  rw [List.flatMap_append]
  simp only [List.flatMap_cons, List.flatMap_nil, List.append_nil]
  refine List.nodup_cons.2 ⟨fun hm => ?_, List.nodup_append.2 ⟨hn, hnf, fun x hx y hy => ?_⟩⟩
  ·rcases List.mem_append.1 hm with hm | hm
   ·have := hrc _ hm; omega
   ·have := hrf _ hm; omega
  ·have := hrc x hx; have := hrf y hy; omega
def AddOut (rs : List RuleV) (J : ByteArray) (w : World) (e : Ending) (w' : World) : Prop :=
 ∃ x rs' cp ok, e = .returned (.tuple #[.agg #[.slice x rs'.length cp], .bool ok]) ∧ OwnR w.heap.size w'.heap.size x rs' cp w' ∧ Below w.heap.size w w' ∧ ((ok = true ∧ rs.length < 24 ∧ ∃ f, Acc rs J f ∧ rs' = rs ++ [f]) ∨ (ok = false ∧ rs' = rs ∧ (24 ≤ rs.length ∨ ∀ y, ¬ Acc rs J y)))
set_option maxHeartbeats 4000000 in
theorem addrule_impl (a : Option Addr) (rs : List RuleV) (cap : Nat) (line : ByteArray) (w : World) (gd : Good rs a cap) (hs : line.size ≤ 1048576) (ht : Tabs w) (hrd : RdC a rs w) :
  Calls Tryz.prog 28 #[.agg #[.slice a rs.length cap], .string line] w (AddOut rs (spaced line) w) := by
 obtain ⟨w0, hw0⟩ : ∃ w0, w0 = (w.alloc (.cells #[.slice a rs.length cap] 26)).alloc (.cells #[.slice none 0 0] 26) := ⟨_, rfl⟩
 have hB0 : Below w.heap.size w w0 := by subst hw0; exact ((Below.refl _ w).alloc (Nat.le_refl _) _).alloc (by simp) _
 have hz0 : w0.heap.size = w.heap.size + 2 := by subst hw0; simp
 have hD : CellsAt w.heap.size [.slice a rs.length cap] w0 := by subst hw0; exact (CellsAt.new w _ _).below ((Below.refl _ _).alloc (Nat.le_refl _) _)
 have hZ : CellsAt (w.heap.size + 1) [.slice none 0 0] w0 := by
  subst hw0
  have h1 := CellsAt.new (w.alloc (.cells #[.slice a rs.length cap] 26)) [.slice none 0 0] 26
  simpa using h1
 have HB := Lib.hid hB0
 have HD := Lib.hid hD
 have HZ := Lib.hid hZ
 have HW := Lib.hid hw0
 have HTW := Lib.hid ht
 have HG := Lib.hid gd
 have HRDW := Lib.hid hrd
 have hln := gd.len
 obtain ⟨J, hJ⟩ : ∃ J, J = spaced line := ⟨_, rfl⟩
 rw [← hJ]
 have HJ := Lib.hid hJ
 have d0 := (hD 0 _ rfl).1
 clear hB0 hD hZ hw0 ht gd hrd hJ
 go_enter Tryz.func28, Tryz.ntmps28
 go_wp2_with fail
 rw [← HW.out]
 clear HW d0
 refine (prule_impl a rs cap line _ HG.out hs (HTW.out.below HB.out) (HRDW.out.below HB.out)).mono ?_
 rintro e w1 ⟨f, fcs, ok, rfl, hof, hb1, hyes, hno⟩
 rw [← HJ.out] at hyes hno
 obtain ⟨g4, h4, g5, h5, g6, h6, g7, h7, rfl, -⟩ := id hof
 obtain ⟨y, hy⟩ : ∃ y, y = w1.alloc (.cells #[.string f.name, .int .i64 f.kind, .int .i64 f.size, .bool f.little, .slice g4 f.bytes.length h4, .slice g5 f.names.length h5, .slice g6 f.tags.length h6, .slice g7 f.kids.length h7] 59) := ⟨_, rfl⟩
 have hby : Below w1.heap.size w1 y := by subst hy; exact (Below.refl _ _).alloc (Nat.le_refl _) _
 have hsy : y.heap.size = w1.heap.size + 1 := by subst hy; simp
 have HV : Hid (CellsAt w1.heap.size [.string f.name, .int .i64 f.kind, .int .i64 f.size, .bool f.little, .slice g4 f.bytes.length h4, .slice g5 f.names.length h5, .slice g6 f.tags.length h6, .slice g7 f.kids.length h7] y) := by subst hy; exact CellsAt.new w1 _ _
 have hs1 := hb1.size
 have hb : Hid (Below w0.heap.size w0 y) := hb1.trans (hby.mono hs1)
 replace HB := Lib.hid (HB.out.trans (hb.out.mono HB.out.size))
 have HO := Lib.hid (hof.below hby)
 have HYES := Lib.hid hyes
 have HNO := Lib.hid hno
 have HY := Lib.hid hy
 have d1 := (HD.out.below hb.out 0 _ rfl).1
 have d1y := d1
 rw [hy] at d1y
 clear hof hb1 hby hyes hno hy
 by_cases hadd : ok = true ∧ rs.length < 24
 ·obtain ⟨rfl, hlt⟩ := hadd
  have g24 : decide ((24 : Int) ≤ (rs.length : Int)) = false := decide_eq_false (by omega)
  have g24n : decide (24 ≤ rs.length) = false := decide_eq_false (by omega)
  have HACC := Lib.hid (HYES.out rfl)
  clear HNO HYES
  go_upto_region 4 with fail
  rw [← HY.out]
  clear HY d1y
  obtain ⟨e0, -⟩ := HV.out 0 _ rfl
  obtain ⟨e1, -⟩ := HV.out 1 _ rfl
  obtain ⟨e2, -⟩ := HV.out 2 _ rfl
  obtain ⟨e3, -⟩ := HV.out 3 _ rfl
  obtain ⟨e4, -⟩ := HV.out 4 _ rfl
  obtain ⟨e5, -⟩ := HV.out 5 _ rfl
  obtain ⟨e6, -⟩ := HV.out 6 _ rfl
  obtain ⟨e7, -⟩ := HV.out 7 _ rfl
  have hbd : Below y.heap.size y y.drew := below_drewN (Below.refl _ _) 1
  replace hb := Lib.hid (hb.out.trans (hbd.mono hb.out.size))
  replace HB := Lib.hid (HB.out.trans (hbd.mono HB.out.size))
  replace HV := Lib.hid (HV.out.below hbd)
  replace HO := Lib.hid (HO.out.below hbd)
  have hone := Lib.hid HO.out.is.one
  have hsd : y.drew.heap.size = y.heap.size := rfl
  clear hbd
  go_region_law (first | (go_simp; go_at_call 51; refine (copy_impl a rs cap y.drew (by omega) HG.out.short (HRDW.out.below HB.out).rd).mono ?_; rintro e v1 ⟨x, cp, rfl, hown, hb1⟩; obtain ⟨css, hcl, hcr, hco, hnd, hcc, hcn⟩ := hown.cells; have HCL := Lib.hid hcl; have HCR := Lib.hid hcr; have HCO := Lib.hid hco; have HND := Lib.hid hnd; have hsv := hb1.size; replace hb := Lib.hid (hb.out.trans (hb1.mono hb.out.size)); replace HB := Lib.hid (HB.out.trans (hb1.mono HB.out.size)); replace HV := Lib.hid (HV.out.below hb1); replace HO := Lib.hid (HO.out.below hb1); obtain ⟨i0, -⟩ := HV.out 0 _ rfl; obtain ⟨i1, -⟩ := HV.out 1 _ rfl; obtain ⟨i2, -⟩ := HV.out 2 _ rfl; obtain ⟨i3, -⟩ := HV.out 3 _ rfl; obtain ⟨i4, -⟩ := HV.out 4 _ rfl; obtain ⟨i5, -⟩ := HV.out 5 _ rfl; obtain ⟨i6, -⟩ := HV.out 6 _ rfl; obtain ⟨i7, -⟩ := HV.out 7 _ rfl; clear hown hb1 hcl hcr hco hnd) | (go_simp; go_at_call 52; refine (withrule_impl x css rs.length cp _ _ _ _ _ _ _ _ v1 HCL.out.symm (by omega) hcc hcn HCR.out hone.out).mono ?_; rintro e v2 ⟨nb, nc, rfl, hro⟩; obtain ⟨z0, t0⟩ := HZ.out.below (hb.out.trans (hro.2.2.2.2.mono hb.out.size)) 0 _ rfl; have HRO := Lib.hid hro; replace HB := Lib.hid (HB.out.trans (hro.2.2.2.2.mono HB.out.size)); clear hro))
  all_goals (have HFIN : Hid (OwnR w0.heap.size v2.heap.size (some ⟨nb, 0, none⟩) (rs ++ [f]) nc v2) := ownR_snoc (lo0 := w0.heap.size) (hi0 := w1.heap.size) (lo1 := y.drew.heap.size) (hi1 := v1.heap.size) HCL.out HCO.out HND.out HO.out (by omega) (Nat.le_refl _) (by omega) (Nat.le_refl _) (by omega) (by omega) HRO.out)
  all_goals clear HRO HCO HND HCR hone
  all_goals go_wp2
  all_goals (try simp only [Exit.inBlock, Exit.then])
  all_goals refine bodyPost_ret (v := .tuple #[.agg #[.slice (some ⟨nb, 0, none⟩) (rs.length + 1) nc], .bool true]) ?_ rfl ?_
  all_goals first | (simp [results, Tryz.results28, go_sem, z0]; done) | exact ⟨some ⟨nb, 0, none⟩, rs ++ [f], nc, true, by simp, (HFIN.out.setFar (c := w.heap.size + 1) (by omega)).more (by omega) (by simp), HB.out.setCell (p := ⟨w.heap.size + 1, 0, none⟩) (by show w.heap.size ≤ w.heap.size + 1; omega) _, .inl ⟨rfl, hlt, f, HACC.out, rfl⟩⟩
 ·have hfin : Hid (24 ≤ rs.length ∨ ∀ y, ¬ Acc rs J y) := by
   cases ok with
   | true => exact .inl (by simpa using hadd)
   | false => exact .inr (HNO.out rfl).2.2
  have hway : ok = false ∨ ok = true ∧ decide ((24 : Int) ≤ (rs.length : Int)) = true ∧ decide (24 ≤ rs.length) = true := by
   cases ok with
   | true =>
    have : 24 ≤ rs.length := by simpa using hadd
    exact .inr ⟨rfl, decide_eq_true (by omega), decide_eq_true this⟩
   | false => exact .inl rfl
  clear hadd HNO HYES
  rcases hway with rfl | ⟨rfl, g24, g24n⟩
  ·go_upto_region 3 with fail
   rw [← HY.out]
   clear HY d1y
   go_wp2_with fail
   clear d1
   refine (copy_impl a rs cap _ (by omega) HG.out.short (HRDW.out.below HB.out).rd).mono ?_
   rintro e v1 ⟨x, cp, rfl, hown, hb1⟩
   obtain ⟨z0, t0⟩ := HZ.out.below (hb.out.trans (hb1.mono hb.out.size)) 0 _ rfl
   have HO1 := Lib.hid hown
   replace HB := Lib.hid (HB.out.trans (hb1.mono HB.out.size))
   clear hown hb1
   go_wp2
   (try simp only [Exit.inBlock, Exit.then])
   refine bodyPost_ret (v := .tuple #[.agg #[.slice x rs.length cp], .bool false]) ?_ rfl ?_
   ·simp [results, Tryz.results28, go_sem, z0]
   ·exact ⟨x, rs, cp, false, rfl, (HO1.out.setFar (c := w.heap.size + 1) (by omega)).more (by omega) (by simp), HB.out.setCell (p := ⟨w.heap.size + 1, 0, none⟩) (by show w.heap.size ≤ w.heap.size + 1; omega) _, .inr ⟨rfl, rfl, hfin.out⟩⟩
  ·go_upto_region 3 with fail
   rw [← HY.out]
   clear HY d1y
   go_wp2_with fail
   clear d1
   refine (copy_impl a rs cap _ (by omega) HG.out.short (HRDW.out.below HB.out).rd).mono ?_
   rintro e v1 ⟨x, cp, rfl, hown, hb1⟩
   obtain ⟨z0, t0⟩ := HZ.out.below (hb.out.trans (hb1.mono hb.out.size)) 0 _ rfl
   have HO1 := Lib.hid hown
   replace HB := Lib.hid (HB.out.trans (hb1.mono HB.out.size))
   clear hown hb1
   go_wp2
   (try simp only [Exit.inBlock, Exit.then])
   refine bodyPost_ret (v := .tuple #[.agg #[.slice x rs.length cp], .bool false]) ?_ rfl ?_
   ·simp [results, Tryz.results28, go_sem, z0]
   ·exact ⟨x, rs, cp, false, rfl, (HO1.out.setFar (c := w.heap.size + 1) (by omega)).more (by omega) (by simp), HB.out.setCell (p := ⟨w.heap.size + 1, 0, none⟩) (by show w.heap.size ≤ w.heap.size + 1; omega) _, .inr ⟨rfl, rfl, hfin.out⟩⟩
open Classical in
theorem kindI_lensP {rs : List RuleV} {r : RuleV} (h : kindI rs r = true) : Short r := by
 unfold kindI at h
 rw [Bool.and_eq_true] at h
 have hsame : r = onlyR r := (sameR_iff _ _).1 h.2
 have h1 := h.1
 unfold Short
 rcases kind_cases r.kind with hk | hk | hk | hk | hk | hk | hk | hk | hk | hk | hk
 ·have e : onlyR r = ⟨r.name, r.kind, r.size, r.little, [], [], [], []⟩ := by unfold onlyR; simp [hk]
  rw [e] at hsame
  rw [hsame]; simp
 ·have e : onlyR r = ⟨r.name, r.kind, 0, false, r.bytes, [], [], []⟩ := by unfold onlyR; simp [hk]
  rw [e] at hsame
  have h2 : r.bytes.length ≤ 16 := by simp [meetsB, hk] at h1; omega
  rw [hsame]; simp; omega
 ·have e : onlyR r = ⟨r.name, r.kind, r.size, false, [], [], [], []⟩ := by unfold onlyR; simp [hk]
  rw [e] at hsame
  rw [hsame]; simp
 ·have e : onlyR r = ⟨r.name, r.kind, 0, false, [], [], [], r.kids⟩ := by unfold onlyR; simp [hk]
  rw [e] at hsame
  have h2 : r.kids.length ≤ 2 := by simp [meetsB, hk] at h1; omega
  rw [hsame]; simp; omega
 ·have e : onlyR r = ⟨r.name, r.kind, 0, false, [], [], [], r.kids⟩ := by unfold onlyR; simp [hk]
  rw [e] at hsame
  have h2 : r.kids.length ≤ 2 := by simp [meetsB, hk] at h1; omega
  rw [hsame]; simp; omega
 ·have e : onlyR r = ⟨r.name, r.kind, 0, false, [], r.names, [], r.kids⟩ := by unfold onlyR; simp [hk]
  rw [e] at hsame
  have h2 : r.names.length = r.kids.length ∧ namesB r.names = true := by simpa [meetsB, hk] using h1
  have h3 : r.names.length ≤ 8 := by
   have h4 := h2.2
   unfold namesB at h4
   exact (of_decide_eq_true h4).2.2
  rw [hsame]; simp; omega
 ·have e : onlyR r = ⟨r.name, r.kind, 0, false, [], [], r.tags, r.kids⟩ := by unfold onlyR; simp [hk]
  rw [e] at hsame
  have h2 : tagsB rs r = true := by simpa [meetsB, hk] using h1
  unfold tagsB at h2
  rw [Bool.and_eq_true] at h2
  have h3 := of_decide_eq_true h2.1
  rw [hsame]; simp; omega
 ·have e : onlyR r = ⟨r.name, r.kind, 0, false, [], [], [], r.kids⟩ := by unfold onlyR; simp [hk]
  rw [e] at hsame
  have h2 : r.kids.length = 1 := by simpa [meetsB, hk] using h1
  rw [hsame]; simp; omega
 ·have e : onlyR r = ⟨r.name, r.kind, 0, false, [], [], [], r.kids⟩ := by unfold onlyR; simp [hk]
  rw [e] at hsame
  have h2 : r.kids.length = 1 := by simpa [meetsB, hk] using h1
  rw [hsame]; simp; omega
 ·have e : onlyR r = ⟨r.name, r.kind, 0, false, r.bytes, [], [], []⟩ := by unfold onlyR; simp [hk]
  rw [e] at hsame
  have h2 : r.bytes.length = 1 := by simp [meetsB, hk, termB] at h1; exact h1.1
  rw [hsame]; simp; omega
 ·obtain ⟨k1, k2, k3, k4, k5, k6, k7, k8, k9, k10⟩ := hk
  simp [meetsB, k1, k2, k3, k4, k5, k6, k7, k8, k9, k10] at h1
theorem kindI_speltP {rs : List RuleV} {r : RuleV} (h : kindI rs r = true) (hn : nameB r.name = true) : Spelt r := by
 refine ⟨by have := nameB_short hn; omega, fun s hs => ?_⟩
 by_cases h6 : r.kind = 6
 ·have := nameB_short ((kindI_names h h6).2 s hs); omega
 ·have h0 : r.names = [] := by
   unfold kindI at h
   rw [Bool.and_eq_true] at h
   have ho := (sameR_iff _ _).1 h.2
   rw [ho]
   unfold onlyR
   (repeat' split) <;> first | rfl | (rename_i e; exact absurd e h6)
  rw [h0] at hs; cases hs
theorem valid_short {rs : List RuleV} (h : allV (kindI rs) rs) : ∀ r ∈ rs, Short r := fun r hr => by
 obtain ⟨i, hi, rfl⟩ := List.getElem_of_mem hr
 exact kindI_lensP (good_all h hi).2.2.2
theorem valid_spelt {rs : List RuleV} (h : allV (kindI rs) rs) : ∀ r ∈ rs, Spelt r := fun r hr => by
 obtain ⟨i, hi, rfl⟩ := List.getElem_of_mem hr
 exact kindI_speltP (good_all h hi).2.2.2 (good_all h hi).2.2.1
open Classical in
noncomputable def stepR (rs : List RuleV) (line : ByteArray) : Option (List RuleV) :=
 if commentW (wordsS line) = true then some rs else if h : rs.length < 24 ∧ ∃ f, Acc rs (spaced line) f then some (rs ++ [Classical.choose h.2]) else none
theorem stepR_skip {rs : List RuleV} {line : ByteArray} (h : commentW (wordsS line) = true) : stepR rs line = some rs := by unfold stepR; rw [if_pos h]
theorem stepR_add {rs : List RuleV} {line : ByteArray} {f : RuleV} (hr : allV (kindI rs) rs) (h : commentW (wordsS line) = false) (hl : rs.length < 24) (hf : Acc rs (spaced line) f) : stepR rs line = some (rs ++ [f]) := by
 unfold stepR
 have hh : rs.length < 24 ∧ ∃ f, Acc rs (spaced line) f := ⟨hl, f, hf⟩
 rw [if_neg (by rw [h]; simp), dif_pos hh, acc_unique hr (Classical.choose_spec hh.2) hf]
theorem stepR_no {rs : List RuleV} {line : ByteArray} (h : commentW (wordsS line) = false) (hn : 24 ≤ rs.length ∨ ∀ y, ¬ Acc rs (spaced line) y) : stepR rs line = none := by
 unfold stepR
 rw [if_neg (by rw [h]; simp), dif_neg]
 rintro ⟨h1, f, hf⟩
 rcases hn with hn | hn
 ·omega
 ·exact hn f hf
noncomputable def readL : List ByteArray → List RuleV → Nat → List RuleV × Nat
 | [], rs, n => if rs.length = 0 then ([], n + 1) else (rs, 0)
 | l :: ls, rs, n => match stepR rs l with
  | some rs' => readL ls rs' (n + 1)
  | none => ([], n + 1)
noncomputable def parseD (text : ByteArray) : List RuleV × Nat := readL (linesS text) [] 0
theorem readL_some {ls : List ByteArray} {rs rs' : List RuleV} {k : Nat} (hk : k < ls.length) (h : stepR rs ls[k] = some rs') : readL (ls.drop k) rs k = readL (ls.drop (k + 1)) rs' (k + 1) := by
 rw [List.drop_eq_getElem_cons hk, readL, h]
theorem readL_none {ls : List ByteArray} {rs : List RuleV} {k : Nat} (hk : k < ls.length) (h : stepR rs ls[k] = none) : readL (ls.drop k) rs k = ([], k + 1) := by
 rw [List.drop_eq_getElem_cons hk, readL, h]
theorem readL_end {ls : List ByteArray} {rs : List RuleV} : readL (ls.drop ls.length) rs ls.length = if rs.length = 0 then ([], ls.length + 1) else (rs, 0) := by
 rw [List.drop_length, readL]
theorem allV_nil : allV (kindI []) [] := fun i hi => by simp at hi
theorem ownR_nil (lo hi : Nat) (w : World) : OwnR lo hi none [] 0 w := ⟨[], rfl, fun j h => by simp at h, .inl rfl, Nat.le_refl _, fun _ => rfl⟩
def DescrRead (out : List RuleV × Nat) (w : World) (e : Ending) (w' : World) : Prop :=
 ∃ (x : Option Addr) (rs : List RuleV) (cp n : Nat), e = .returned (.tuple #[.agg #[.slice x rs.length cp], .int .i64 (n : Int)]) ∧ out = (rs, n) ∧ OwnR w.heap.size w'.heap.size x rs cp w' ∧ Below w.heap.size w w'
def ReadRel (ls : List ByteArray) (xl : Option Addr) (B : Nat) (w : World) (out : List RuleV × Nat) (k : Nat) (W : World) : Prop :=
 ∃ rs x cp, allV (kindI rs) rs ∧ rs.length ≤ 24 ∧ readL (ls.drop k) rs k = out ∧ OwnR (B + 2) W.heap.size x rs cp W ∧ CellsAt (B + 1) [.slice x rs.length cp] W ∧ CellsAt B [.slice none 0 0] W ∧ FreshF Value.string (B + 2) xl ls W ∧ Below w.heap.size w W ∧ B + 2 ≤ W.heap.size
theorem good_of {lo hi cap : Nat} {rs : List RuleV} {a : Option Addr} {w : World} (hv : allV (kindI rs) rs) (hl : rs.length ≤ 24) (ho : OwnR lo hi a rs cap w) : Good rs a cap := by
 obtain ⟨_, _, _, _, h1, h2⟩ := ho
 exact ⟨hv, by omega, h1, h2, valid_short hv, valid_spelt hv⟩
set_option maxHeartbeats 4000000 in
theorem pdescr_impl (text : ByteArray) (w : World) (hs : text.size ≤ 1048576) (ht : Tabs w) :
  Calls Tryz.prog 9 #[.string text] w (DescrRead (parseD text) w) := by
 obtain ⟨out, hout⟩ : ∃ out, out = parseD text := ⟨_, rfl⟩
 rw [← hout]
 have HOUT : Hid (readL (linesS text) [] 0 = out) := hout.symm
 clear hout
 obtain ⟨w0, hw0⟩ : ∃ w0, w0 = (w.alloc (.cells #[.slice none 0 0] 26)).alloc (.cells #[.slice none 0 0] 26) := ⟨_, rfl⟩
 have hB0 : Below w.heap.size w w0 := by subst hw0; exact ((Below.refl _ w).alloc (Nat.le_refl _) _).alloc (by simp) _
 have hz0 : w0.heap.size = w.heap.size + 2 := by subst hw0; simp
 have hD : CellsAt w.heap.size [.slice none 0 0] w0 := by subst hw0; exact (CellsAt.new w _ _).below ((Below.refl _ _).alloc (Nat.le_refl _) _)
 have hZ : CellsAt (w.heap.size + 1) [.slice none 0 0] w0 := by
  subst hw0
  have h1 := CellsAt.new (w.alloc (.cells #[.slice none 0 0] 26)) [.slice none 0 0] 26
  simpa using h1
 have HB := Lib.hid hB0
 have HD := Lib.hid hD
 have HZ := Lib.hid hZ
 have HW := Lib.hid hw0
 have HTW := Lib.hid ht
 have hll := lines_le1 text
 have HLE := Lib.hid (fun q (hq : q ∈ linesS text) => line_le1 hq)
 clear hB0 hD hZ hw0 ht
 go_enter Tryz.func9, Tryz.ntmps9
 go_wp2_with fail
 rw [← HW.out]
 clear HW
 refine (lines_impl text _ (by omega)).mono ?_
 rintro e w1 ⟨xl, cl, rfl, hrow, hb1⟩
 obtain ⟨ls, hls⟩ : ∃ ls, ls = linesS text := ⟨_, rfl⟩
 rw [← hls] at hrow hll HLE HOUT ⊢
 have HREL : Hid (ReadRel ls xl w.heap.size w out 0 w1) := ⟨[], none, 0, allV_nil, Nat.zero_le _, HOUT.out, ownR_nil _ _ _, HZ.out.below hb1, HD.out.below hb1, hrow.1.more (by omega), HB.out.trans (hb1.mono HB.out.size), by have := hb1.size; omega⟩
 clear hb1 hrow hls HD HZ HB HOUT
 go_wp2
 go_loopw [15] (fun v W => ∃ k : Nat, k ≤ ls.length ∧ v = .int .i64 k ∧ Hid (ReadRel ls xl w.heap.size w out k W)) (fun v _ => ls.length - (intOf v).toNat)
 case atStart => exact ⟨0, Nat.zero_le _, rfl, HREL⟩
 case round =>
  clear HREL
  obtain ⟨k, hk, rfl, hr⟩ := hrel
  obtain ⟨rs, x, cp, hv, hl24, hread, hown, hc1, hc0, hlines, hbw, hB2⟩ := hr.out
  clear hr
  have k0 : (0 : Int) ≤ (k : Int) := by omega
  have HV := Lib.hid hv
  have HOWN := Lib.hid hown
  have HC1 := Lib.hid hc1
  have HC0 := Lib.hid hc0
  have HLN := Lib.hid hlines
  have HBW := Lib.hid hbw
  have HREAD := Lib.hid hread
  clear hv hown hc1 hc0 hlines hbw hread
  by_cases hlt : k < ls.length
  ·have k1 : (k : Int) < (ls.length : Int) := by omega
   obtain ⟨bl, ol, rfl, hcell⟩ := HLN.out.rd k hlt
   have hsz := HLE.out _ (List.getElem_mem hlt)
   have hskip := fun h => Lib.hid ((readL_some (rs := rs) hlt (stepR_skip h)).symm.trans HREAD.out)
   have hadd := fun f h1 h2 h3 => Lib.hid ((readL_some (rs := rs) hlt (stepR_add (f := f) HV.out h1 h2 h3)).symm.trans HREAD.out)
   have hno := fun h1 h2 => Lib.hid ((readL_none (rs := rs) hlt (stepR_no h1 h2)).symm.trans HREAD.out)
   obtain ⟨line, hline⟩ : ∃ line, line = ls[k] := ⟨_, rfl⟩
   rw [← hline] at hcell hsz hskip hadd hno
   clear hline
   go_wp2_with fail
   refine (comment_impl line _ (by omega)).mono ?_
   rintro e w2 ⟨rfl, hb2⟩
   have hs2 := hb2.size
   replace HOWN := Lib.hid ((HOWN.out.below hb2).more (Nat.le_refl _) hs2)
   replace HC1 := Lib.hid (HC1.out.below hb2)
   replace HC0 := Lib.hid (HC0.out.below hb2)
   replace HLN := Lib.hid (HLN.out.below hb2)
   replace HBW := Lib.hid (HBW.out.trans (hb2.mono HBW.out.size))
   clear hb2 hcell
   by_cases hcm : commentW (wordsS line) = true
   ·have HN := hskip hcm
    rw [hcm]
    clear hskip hadd hno hcm
    go_wp2
    go_roundw
    case rel => exact ⟨k + 1, by omega, by go_num, rs, x, cp, HV.out, hl24, HN.out, HOWN.out, HC1.out, HC0.out, HLN.out, HBW.out, by omega⟩
    case measure => simp [intOf]; omega
   ·have hcm' : commentW (wordsS line) = false := by simpa using hcm
    rw [hcm']
    have d1 := (HC1.out 0 _ rfl).1
    have hbs := HBW.out.size
    go_wp2_with fail
    clear d1
    refine (addrule_impl x rs cp line _ (good_of HV.out hl24 HOWN.out) (by omega) (HTW.out.below HBW.out) HOWN.out.rdc).mono ?_
    rintro e w3 ⟨x3, rs3, cp3, ok, rfl, ho3, hb3, hcase⟩
    have hs3 := hb3.size
    obtain ⟨y, hy⟩ : ∃ y, y = w3.alloc (.cells #[.slice x3 rs3.length cp3] 26) := ⟨_, rfl⟩
    have hby : Below w3.heap.size w3 y := by subst hy; exact (Below.refl _ _).alloc (Nat.le_refl _) _
    have hsy : y.heap.size = w3.heap.size + 1 := by subst hy; simp
    have hb23 : Below w2.heap.size w2 y := hb3.trans (hby.mono hs3)
    have HY := Lib.hid hy
    have HE : Hid (CellsAt w3.heap.size [.slice x3 rs3.length cp3] y) := by subst hy; exact CellsAt.new w3 _ _
    replace HC1 := Lib.hid (HC1.out.below hb23)
    replace HC0 := Lib.hid (HC0.out.below hb23)
    replace HLN := Lib.hid (HLN.out.below hb23)
    replace HBW := Lib.hid (HBW.out.trans (hb23.mono HBW.out.size))
    have hcsz := cell_lt (HC1.out 0 _ rfl).1
    have HO3 := Lib.hid ((ho3.below hby).more (show w.heap.size + 2 ≤ w2.heap.size by omega) (show w3.heap.size ≤ y.heap.size by omega))
    clear hb3 hby hb23 ho3 hy hskip HOWN
    rcases hcase with ⟨rfl, hlt24, f, hacc, hrs3⟩ | ⟨rfl, -, hnone⟩
    ·have HN := hadd f hcm' hlt24 hacc
     have HV2 := Lib.hid (allV_snoc HV.out hacc.1)
     have hl2 : rs3.length ≤ 24 := by rw [hrs3]; simp; omega
     rw [← hrs3] at HN HV2
     clear hadd hno hacc hcm hcm' hrs3
     go_upto_region 10 with fail
     rw [← HY.out]
     clear HY
     obtain ⟨c1, f1⟩ := HC1.out 0 _ rfl
     obtain ⟨e1, -⟩ := HE.out 0 _ rfl
     have HRELN : Hid (ReadRel ls (some ⟨bl, ol, none⟩) w.heap.size w out (k + 1) (y.setCell ⟨w.heap.size + 1, 0, none⟩ (.slice x3 rs3.length cp3))) := by
      refine ⟨rs3, x3, cp3, HV2.out, hl2, HN.out, (HO3.out.setFar (c := w.heap.size + 1) (by omega)).more (Nat.le_refl _) (by simp), ?_, HC0.out.far (by omega), HLN.out.setFar (by omega), HBW.out.setCell (p := ⟨w.heap.size + 1, 0, none⟩) (by show w.heap.size ≤ w.heap.size + 1; omega) _, by simp; omega⟩
      have q := HC1.out.set 0 (.slice x3 rs3.length cp3) (by simp)
      simpa only [List.set] using q
     clear HC1 HC0 HE HLN HO3 HV2 HN
     go_wp2
     go_roundw
     case rel => exact ⟨k + 1, by omega, by go_num, HRELN⟩
     case measure => simp [intOf]; omega
    ·have HN := hno hcm' hnone
     clear hadd hno hnone hcm hcm'
     go_upto_region 9 with fail
     rw [← HY.out]
     clear HY
     obtain ⟨c0, f0⟩ := HC0.out 0 _ rfl
     go_wp2
     (try simp only [Exit.inBlock, Exit.then])
     refine bodyPost_ret (v := .tuple #[.agg #[.slice none 0 0], .int .i64 ((k : Int) + 1)]) ?_ rfl ?_
     ·simp [results, Tryz.results9, go_sem, c0]
     ·exact ⟨none, [], 0, k + 1, by simp, HN.out.symm, ownR_nil _ _ _, HBW.out.setCell (p := ⟨w.heap.size, 0, none⟩) (by show w.heap.size ≤ w.heap.size; omega) _⟩
  ·have k1 : ¬ (k : Int) < (ls.length : Int) := by omega
   obtain rfl : k = ls.length := by omega
   have hend := HREAD.out
   rw [readL_end] at hend
   obtain ⟨c1, -⟩ := HC1.out 0 _ rfl
   obtain ⟨c0, f0⟩ := HC0.out 0 _ rfl
   by_cases h0 : rs.length = 0
   ·rw [if_pos h0] at hend
    have HN := Lib.hid hend
    have g0 : ((rs.length : Int) == 0) = true := by simp [h0]
    rw [h0] at c1
    clear hend h0 HREAD
    go_wp2
    (try simp only [Exit.inBlock, Exit.then])
    refine bodyPost_ret (v := .tuple #[.agg #[.slice none 0 0], .int .i64 ((ls.length : Int) + 1)]) ?_ rfl ?_
    ·simp [results, Tryz.results9, go_sem, c0]
    ·exact ⟨none, [], 0, ls.length + 1, by simp, HN.out.symm, ownR_nil _ _ _, HBW.out.setCell (p := ⟨w.heap.size, 0, none⟩) (by show w.heap.size ≤ w.heap.size; omega) _⟩
   ·rw [if_neg h0] at hend
    have HN := Lib.hid hend
    have g0 : ((rs.length : Int) == 0) = false := beq_eq_false_iff_ne.2 (by omega)
    have n0 : ¬ rs.length = 0 := h0
    clear hend h0 HREAD
    go_wp2
    (try simp only [Exit.inBlock, Exit.then])
    refine bodyPost_ret (v := .tuple #[.agg #[.slice x rs.length cp], .int .i64 0]) ?_ rfl ?_
    ·simp [results, Tryz.results9, go_sem, c0]
    ·exact ⟨x, rs, cp, 0, rfl, HN.out.symm, (HOWN.out.setFar (c := w.heap.size) (by omega)).more (by omega) (by simp), HBW.out.setCell (p := ⟨w.heap.size, 0, none⟩) (by show w.heap.size ≤ w.heap.size; omega) _⟩
theorem kindAt_take {rs : List RuleV} {n : Nat} {k : Int} (h0 : 0 ≤ k) (h1 : k < (n : Int)) (hn : n ≤ rs.length) : kindAtB (rs.take n) k = kindAtB rs k := by
 unfold kindAtB
 rw [dif_pos (by rw [List.length_take]; omega), dif_pos (by omega), List.getElem_take]
theorem limitAt_take {rs : List RuleV} {n : Nat} {k : Int} (h0 : 0 ≤ k) (h1 : k < (n : Int)) (hn : n ≤ rs.length) : limitAt (rs.take n) k = limitAt rs k := by
 unfold limitAt
 rw [dif_pos (by rw [List.length_take]; omega), dif_pos (by omega)]
 simp only [List.getElem_take]
theorem kindI_take {rs : List RuleV} {r : RuleV} {i n : Nat} (hi : i ≤ n) (hn : n ≤ rs.length) (hk : kidsB r.kids (i : Int) = true) : kindI (rs.take n) r = kindI rs r := by
 obtain ⟨nm, kd, sz, lt, bs, ns, ts, ks⟩ := r
 dsimp only at hk
 cases ks with
 | nil => simp [kindI, meetsB, tagsB]
 | cons k ks =>
  unfold kidsB at hk
  rw [List.all_eq_true] at hk
  have hk1 := of_decide_eq_true (hk k (by simp))
  have e1 := kindAt_take (rs := rs) (n := n) hk1.1 (by omega) hn
  have e2 := limitAt_take (rs := rs) (n := n) hk1.1 (by omega) hn
  unfold kindI meetsB tagsB
  simp only [List.headD_cons, e1, e2]
theorem findFrom_take {rs : List RuleV} {i n : Nat} (hi : i < n) (hn : n ≤ rs.length) {x : ByteArray} (h : findFrom x rs 0 = (i : Int)) : findFrom x (rs.take n) 0 = (i : Int) := by
 rcases findFrom_cases x rs 0 with ⟨h1, _⟩ | ⟨k, hk, h1, h2, h3⟩
 ·omega
 ·have e : k = i := by omega
  subst e
  rcases findFrom_cases x (rs.take n) 0 with ⟨g1, g2⟩ | ⟨j, hj, g1, g2, g3⟩
  ·refine absurd ?_ (g2 (rs[k]) ?_)
   ·exact h2
   ·have : (rs.take n)[k]'(by rw [List.length_take]; omega) = rs[k] := List.getElem_take
    rw [← this]; exact List.getElem_mem _
  ·rw [List.length_take] at hj
   rw [List.getElem_take] at g2
   rcases Nat.lt_trichotomy j k with hlt | rfl | hgt
   ·exact absurd g2 (h3 j hlt)
   ·rw [g1]; simp
   ·have := g3 k hgt
    rw [List.getElem_take] at this
    exact absurd h2 this
theorem allV_take {rs : List RuleV} (h : allV (kindI rs) rs) {n : Nat} (hn : n ≤ rs.length) : allV (kindI (rs.take n)) (rs.take n) := fun i hi => by
 have hi2 : i < n := by rw [List.length_take] at hi; omega
 obtain ⟨h1, h2, h3, h4⟩ := good_all h (by omega : i < rs.length)
 rw [validAt_in hi, List.getElem_take]
 simp only [Bool.and_eq_true]
 exact ⟨decide_eq_true (findFrom_take hi2 hn h1), h2, h3, by rw [kindI_take (Nat.le_of_lt hi2) hn h2]; exact h4⟩
theorem take_snoc {rs : List RuleV} {i : Nat} (h : i < rs.length) : rs.take i ++ [rs[i]] = rs.take (i + 1) := (List.take_succ_eq_append_getElem h).symm
theorem take_len {rs : List RuleV} {i : Nat} (h : i ≤ rs.length) : (rs.take i).length = i := by rw [List.length_take]; omega
theorem fields_congr {A B : List RuleV} {n : Nat} {y : RuleV} (h : ∀ m : Nat, kidName A (n : Int) (m : Int) = kidName B (n : Int) (m : Int)) : fieldsOf A n y = fieldsOf B n y := by
 have h0 := h 0
 have h1 := h 1
 have hs : seqTo A n y.names y.names.length = seqTo B n y.names y.names.length := by
  rw [seqTo_map, seqTo_map]; exact List.map_congr_left fun m _ => by rw [h m]
 have hc : chTo A n y.tags y.tags.length = chTo B n y.tags y.tags.length := by
  rw [chTo_map, chTo_map]; exact List.map_congr_left fun m _ => by have := h (m + 1); simp only [Int.natCast_add, Int.natCast_one] at this; rw [this]
 simp only [Int.natCast_zero, Int.natCast_one] at h0 h1
 unfold fieldsOf
 rw [h0, h1, hs, hc]
theorem kidName_take {rs : List RuleV} {i : Nat} (h : allV (kindI rs) rs) (hi : i < rs.length) (m : Nat) : kidName (rs.take (i + 1)) (i : Int) (m : Int) = kidName rs (i : Int) (m : Int) := by
 have hl : (rs.take (i + 1)).length = i + 1 := take_len (by omega)
 have e : (rs.take (i + 1))[i]'(by omega) = rs[i] := List.getElem_take
 by_cases hm : m < rs[i].kids.length
 ·obtain ⟨q, hq, e1, e2, e3⟩ := good_kid h hi hm
  have hm2 : m < ((rs.take (i + 1))[i]'(by omega)).kids.length := by rw [e]; exact hm
  rw [e3, kidName_yes (rs := rs.take (i + 1)) (n := i) (m := m) (q := q) (by omega) hm2 (by simp only [e]; exact e1) (by omega), List.getElem_take]
 ·rw [kidName_no2 (rs := rs) hi (by omega), kidName_no2 (rs := rs.take (i + 1)) (by omega) (by rw [e]; omega)]
theorem line_take {rs : List RuleV} {i : Nat} (h : allV (kindI rs) rs) (hi : i < rs.length) : lineS (rs.take (i + 1)) i rs[i] = lineS rs i rs[i] := by
 unfold lineS
 rw [fields_congr (kidName_take h hi)]
theorem acc_line {rs : List RuleV} {i : Nat} (h : allV (kindI rs) rs) (hi : i < rs.length) : Acc (rs.take i) (lineAt rs i) rs[i] := by
 have hl := take_len (rs := rs) (i := i) (by omega)
 refine ⟨?_, ?_⟩
 ·rw [take_snoc hi, hl]
  exact allV_take h (by omega : i + 1 ≤ rs.length) i (by rw [take_len (by omega)]; omega)
 ·rw [take_snoc hi, hl, line_take h hi, lineAt_in hi]
theorem words_at1 {rs : List RuleV} {i : Nat} (h : allV (kindI rs) rs) (hi : i < rs.length) : wordsS (lineAt rs i) = rs[i].name :: kindName rs[i].kind :: fieldsOf rs i rs[i] := by rw [lineAt_in hi]; exact words_line h hi
theorem spaced_line {rs : List RuleV} {i : Nat} (h : allV (kindI rs) rs) (hi : i < rs.length) : spaced (lineAt rs i) = lineAt rs i := by
 unfold spaced
 rw [words_at1 h hi, join_addWs, lineAt_in hi]
 rfl
open Classical in
theorem comment_line {rs : List RuleV} {i : Nat} (h : allV (kindI rs) rs) (hi : i < rs.length) : commentW (wordsS (lineAt rs i)) = false := by
 rw [words_at1 h hi]
 have hn := (good_all h hi).2.2.1
 have hp : 0 < rs[i].name.size := size_pos (nameB_plain hn).1
 refine comment_no hp fun e => ?_
 have hnt : nameTo rs[i].name rs[i].name.size := by
  have := hn
  unfold nameB at this
  exact (of_decide_eq_true this).1
 have := hnt 0 hp hp
 unfold nameAt at this
 rw [e] at this
 have : (35 : UInt8).toNat = 35 := rfl
 omega
theorem addWs_le {M : Nat} : ∀ (ws : List ByteArray) (s : ByteArray), (∀ x ∈ ws, x.size ≤ M) → (addWs s ws).size ≤ s.size + ws.length * (M + 1)
 | [], s, _ => by simp [addWs]
 | x :: ws, s, h => by
  have ih := addWs_le ws (addW s x) (fun y hy => h y (by simp [hy]))
  have h1 := h x (by simp)
  rw [addW_size] at ih
  show (addWs (addW s x) ws).size ≤ _
  simp only [List.length_cons, Nat.add_mul]
  omega
theorem field_small {rs : List RuleV} {k : Nat} (hv : allV (kindI rs) rs) (hk : k < rs.length) : (fieldsOf rs k rs[k]).length ≤ 9 ∧ ∀ x ∈ fieldsOf rs k rs[k], x.size ≤ 40 := by
 have v := (good_all hv hk).2.2.2
 have g := good_kind v
 have one : ∀ x : ByteArray, x.size ≤ 40 → fieldsOf rs k rs[k] = [x] → (fieldsOf rs k rs[k]).length ≤ 9 ∧ ∀ x ∈ fieldsOf rs k rs[k], x.size ≤ 40 := fun x hx e => by
  rw [e]; exact ⟨by simp, fun y hy => by rw [List.mem_singleton] at hy; rw [hy]; exact hx⟩
 by_cases h4 : 4 ≤ rs[k].kind ∧ rs[k].kind ≤ 9
 ·rw [fields_kid v h4]
  refine ⟨by rw [List.length_map, List.length_range]; exact kids_max v h4, fun x hx => ?_⟩
  obtain ⟨m, hm, rfl⟩ := List.mem_map.1 hx
  have hm2 : m < rs[k].kids.length := by simpa using hm
  have hn := nameB_short (good_kidName hv hk hm2)
  rw [ByteArray.size_append]
  have hl : (kidLabel rs[k] m).size ≤ 22 := by
   unfold kidLabel
   split
   ·rename_i h6
    have hl3 := (kindI_kids v).2.2.1 h6
    have hmn : m < rs[k].names.length := by omega
    rw [ByteArray.size_append, List.getD_eq_getElem?_getD, List.getElem?_eq_getElem hmn]
    have := nameB_short ((kindI_names v h6).2 _ (List.getElem_mem hmn))
    have h1 : (⟨#[58]⟩ : ByteArray).size = 1 := rfl
    show (rs[k].names[m]).size + _ ≤ 22
    omega
   ·split
    ·rename_i h7
     have hl4 := (kindI_kids v).2.2.2 h7.1
     have hmn : m - 1 < rs[k].tags.length := by omega
     rw [ByteArray.size_append, List.getD_eq_getElem?_getD, List.getElem?_eq_getElem hmn]
     have ht := kindI_tagsP v h7.1 _ (List.getElem_mem hmn)
     have := itoaS_size (n := rs[k].tags[m - 1]) (by omega) (by omega)
     have h1 : (⟨#[58]⟩ : ByteArray).size = 1 := rfl
     show (itoaS rs[k].tags[m - 1]).size + _ ≤ 22
     omega
    ·exact Nat.zero_le _
  omega
 ·rcases (by omega : rs[k].kind = 1 ∨ rs[k].kind = 2 ∨ rs[k].kind = 3 ∨ rs[k].kind = 10) with e | e | e | e
  ·have hz := kindI_size v e
   have hi := itoaS_size (n := rs[k].size) (by omega) (by omega)
   have hf : fieldsOf rs k rs[k] = if rs[k].little then [itoaS rs[k].size, littleS] else [itoaS rs[k].size] := by unfold fieldsOf; rw [if_pos e]
   have hl : littleS.size = 6 := rfl
   rw [hf]
   split
   ·refine ⟨by simp, fun y hy => ?_⟩
    simp only [List.mem_cons, List.not_mem_nil, or_false] at hy
    rcases hy with rfl | rfl <;> omega
   ·refine ⟨by simp, fun y hy => ?_⟩
    rw [List.mem_singleton] at hy; rw [hy]; omega
  ·have hb : rs[k].bytes.length ≤ 16 := by have q := v; simp [kindI, meetsB, e] at q; omega
   exact one (hexS rs[k].bytes) (by rw [hexS_size]; omega) (by unfold fieldsOf; simp [e])
  ·have hz := kindI_fixed v e
   exact one (itoaS rs[k].size) (by have := itoaS_size (n := rs[k].size) (by omega) (by omega); omega) (by unfold fieldsOf; simp [e])
  ·have hb : rs[k].bytes.length = 1 := by have q := v; simp [kindI, meetsB, e, termB] at q; exact q.1.1
   exact one (hexS rs[k].bytes) (by rw [hexS_size]; omega) (by unfold fieldsOf; simp [e])
theorem line_small {rs : List RuleV} (hv : allV (kindI rs) rs) {k : Nat} (hk : k < rs.length) : (lineAt rs k).size ≤ 1000 := by
 obtain ⟨h1, h2⟩ := field_small hv hk
 have hn := nameB_short (good_all hv hk).2.2.1
 have hkn := kindName_len rs[k].kind
 rw [lineAt_in hk]
 unfold lineS
 have := addWs_le (M := 40) (kindName rs[k].kind :: fieldsOf rs k rs[k]) rs[k].name (fun x hx => by
  rcases List.mem_cons.1 hx with rfl | hx
  ·omega
  ·exact h2 x hx)
 simp only [List.length_cons] at this
 omega
end Go.Proofs.YtndjefednfcmmaaGreatDoor
