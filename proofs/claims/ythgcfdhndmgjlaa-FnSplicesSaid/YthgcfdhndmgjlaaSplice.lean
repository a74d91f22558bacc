/- Appending what a slice holds to bytes that the call owns; contract of the model's SpliceBytes. -/
import Derived.Test.YthgcfdhndmgjlaaDrawBytes
import Derived.Laws.AppendOwnNone
import Derived.Deep.RegionLaw
namespace Go.Proofs.Ythgcfdhndmgjlaa
open Go Go.RowKit
/-- A slice that may be appended: what it reads as; nil holds nothing. -/
def Src1 (a : Option Addr) (bs : List UInt8) (cap : Nat) (w : World) : Prop := Rd a bs w ∧ (a = none → cap = 0)
theorem run_app (base : Nat) (ty : TypeId) (v : Value) (acc cs : List UInt8) (a : Option Addr) (cap : Nat) (w : World) (hown : OwnB base v acc w) (hs : Src1 a cs cap w) (hl : acc.length + cs.length ≤ 1099511627776) (hbase : base ≤ w.heap.size) :
    ∃ v' w', (Builtin.append_ #[22, 22] ty #[v, .slice a cs.length cap]).run Try.prog w = .ok v' w' ∧ OwnB base v' (acc ++ cs) w' ∧ w.grownBy w' v.ownBlock := by
  obtain ⟨i0, hi, hz0, hz1, hz2⟩ := infoParts
  rcases a with _ | ad
  · have hcs : cs = [] := by
      cases cs with
      | nil => rfl
      | cons c r => obtain ⟨b, off, h, _⟩ := hs.1 0 (by simp); cases h
    subst hcs
    obtain rfl := hs.2 rfl
    exact ⟨v, w, run_append_owned_none (P := Try.prog) (w := w) base 22 ty 5 i0 1 Try.underlying22 hi v acc.length (acc.map bv) hown, by simpa using hown, World.grownBy.refl _ _⟩
  · obtain ⟨v', w', hr, ho, hg, _⟩ := run_append_own (P := Try.prog) w base 22 ty 5 i0 (.int .u8 0) 1 1 Try.underlying22 hi hz0 hz1 hz2 rfl (by omega) v acc.length (acc.map bv) hown ad cs.length cap (cs.map bv) (by simp)
      (fun j u hj => by
        have hjl : j < cs.length := by
          rcases Nat.lt_or_ge j cs.length with h | h
          · exact h
          · rw [List.getElem?_eq_none (by simpa using h)] at hj; cases hj
        obtain ⟨b, off, hab, hc⟩ := hs.1 j hjl
        injection hab with hab
        subst hab
        rw [Go.WideShapes.add_plain, hc]
        simp [hjl] at hj
        subst hj
        rfl)
      (fun u hu => by
        obtain ⟨b, _, rfl⟩ := List.mem_map.1 hu
        rfl)
      (by unfold maxLen; omega) (by omega) hbase
    refine ⟨v', w', hr, ?_, hg⟩
    unfold OwnB
    rw [List.length_append, List.map_append]
    exact ho
/-- .. as a step of a plain region. -/
theorem wp_app {ops : Array Oper} {rest : List Oper} {o : Oper} {A : Act} {Q : Exit → Act → World → Prop} (hgd : o.guard = none) (s x : Operand)
    (ho : o.op = .call { callee := .builtin .append, args := #[s, x], argTypes := #[22, 22] })
    (base : Nat) (v : Value) (acc cs : List UInt8) (a : Option Addr) (cap : Nat) (w : World) (hsv : A.eval s = v) (hxv : A.eval x = .slice a cs.length cap)
    (hown : OwnB base v acc w) (hs : Src1 a cs cap w) (hl : acc.length + cs.length ≤ 1099511627776) (hbase : base ≤ w.heap.size)
    (h : ∀ v' w', OwnB base v' (acc ++ cs) w' → w.grownBy w' v.ownBlock → wpList Try.prog ops Q rest (A.put o.dst v') w') : wpList Try.prog ops Q (o :: rest) A w := by
  refine wpList_plain hgd fun K hK => ?_
  obtain ⟨v', w', hr, h2, h3⟩ := run_app base o.type v acc cs a cap w hown hs hl hbase
  unfold Oper.wp
  simp [execOp, ho, resolve, invoke, builtin, hsv, hxv, hr, Result.andThen]
  exact hK _ _ (h v' w' h2 h3)
/-- .. as a step of a region that draws its order. -/
theorem step_app {ops : Array Oper} {o : Oper} {A : Act} {w : World} {K : Act → World → Prop} {Q : Exit → Act → World → Prop} {E : Prop} (hgd : o.guard = none) (s x : Operand)
    (ho : o.op = .call { callee := .builtin .append, args := #[s, x], argTypes := #[22, 22] })
    (base : Nat) (v : Value) (acc cs : List UInt8) (a : Option Addr) (cap : Nat) (hsv : A.eval s = v) (hxv : A.eval x = .slice a cs.length cap)
    (hown : OwnB base v acc w) (hs : Src1 a cs cap w) (hl : acc.length + cs.length ≤ 1099511627776) (hbase : base ≤ w.heap.size)
    (h : ∀ v' w', OwnB base v' (acc ++ cs) w' → w.grownBy w' v.ownBlock → K (A.put o.dst v') w') :
    if Region.wanted o (yielded ops A.tmps) = true then Oper.wp Try.prog o A w K Q else E := by
  have hw : Region.wanted o (yielded ops A.tmps) = true := by simp [Region.wanted, hgd]
  rw [if_pos hw]
  obtain ⟨v', w', hr, h2, h3⟩ := run_app base o.type v acc cs a cap w hown hs hl hbase
  unfold Oper.wp
  simp [execOp, ho, resolve, invoke, builtin, hsv, hxv, hr, Result.andThen]
  exact h v' w' h2 h3
/-- When a splice is possible. -/
def OkSplice (n : Nat) (at_ remove : Int) : Prop := 0 ≤ at_ ∧ 0 ≤ remove ∧ at_ + remove ≤ n
set_option maxRecDepth 100000 in
theorem splice_no (a ai : Option Addr) (bs is : List UInt8) (cap capi : Nat) (k r : Int) (w : World) (hl : bs.length ≤ 1048576) (hr : r ≤ 9223372036854775807) (hk : k ≤ 9223372036854775807) (hs : Src1 a bs cap w) (h : ¬ OkSplice bs.length k r) :
    Calls Try.prog 28 #[.slice a bs.length cap, .int .i64 k, .int .i64 r, .slice ai is.length capi] w (BytesOkOut bs false w) := by
  have HS := Lib.hid hs
  have HO := Lib.hid (OwnB.start w)
  unfold OkSplice at h
  have hsz : (w.alloc (.cells #[] 5)).heap.size = w.heap.size + 1 := by simp
  have HZ := Lib.hid hsz
  clear hs hsz
  have fin : ∀ v' w2, OwnB w.heap.size v' ([] ++ bs) w2 → (w.alloc (.cells #[] 5)).grownBy w2 (Value.slice (some ⟨w.heap.size, 0, none⟩) 0 0).ownBlock → BytesOkOut bs false w (.returned (.tuple #[v', .bool false])) w2 := fun v' w2 ho hg => by
    rw [List.nil_append] at ho
    obtain ⟨a2, c2, rfl, hf⟩ := ho.row
    refine ⟨a2, c2, rfl, hf, ?_⟩
    exact ((Below.refl w.heap.size w).alloc (Nat.le_refl _) _).grown hg (by simp) fun j hj => by
      simp [Value.ownBlock] at hj; omega
  have FIN := Lib.hid fin
  clear fin
  by_cases h1 : k < 0
  · go_enter Try.func28, Try.ntmps28
    go_wp2_with (at_builtin; refine wp_app rfl _ _ rfl w.heap.size (.slice (some ⟨w.heap.size, 0, none⟩) 0 0) [] bs a cap _ rfl rfl HO.out ⟨HS.out.1.below ((Below.refl _ _).alloc (Nat.le_refl _) _), HS.out.2⟩ (by simp; omega) (by have := HZ.out; omega) ?_)
    intro v' w2 ho hg
    have HF := Lib.hid (FIN.out v' w2 ho hg)
    clear ho hg
    go_wp2
    go_ret2
    exact HF.out
  · have g1 : decide (k < 0) = false := by simp; omega
    by_cases h2 : r < 0
    · go_enter Try.func28, Try.ntmps28
      go_wp2_with (at_builtin; refine wp_app rfl _ _ rfl w.heap.size (.slice (some ⟨w.heap.size, 0, none⟩) 0 0) [] bs a cap _ rfl rfl HO.out ⟨HS.out.1.below ((Below.refl _ _).alloc (Nat.le_refl _) _), HS.out.2⟩ (by simp; omega) (by have := HZ.out; omega) ?_)
      intro v' w2 ho hg
      have HF := Lib.hid (FIN.out v' w2 ho hg)
      clear ho hg
      go_wp2
      go_ret2
      exact HF.out
    · have g2 : decide (r < 0) = false := by simp; omega
      by_cases h3 : (bs.length : Int) < r
      · go_enter Try.func28, Try.ntmps28
        go_wp2_with (at_builtin; refine wp_app rfl _ _ rfl w.heap.size (.slice (some ⟨w.heap.size, 0, none⟩) 0 0) [] bs a cap _ rfl rfl HO.out ⟨HS.out.1.below ((Below.refl _ _).alloc (Nat.le_refl _) _), HS.out.2⟩ (by simp; omega) (by have := HZ.out; omega) ?_)
        intro v' w2 ho hg
        have HF := Lib.hid (FIN.out v' w2 ho hg)
        clear ho hg
        go_wp2
        go_ret2
        exact HF.out
      · have g3 : decide ((bs.length : Int) < r) = false := by simp; omega
        have g4 : (bs.length : Int) - r < k := by omega
        have g5 : -9223372036854775808 ≤ (bs.length : Int) - r := by omega
        have g6 : (bs.length : Int) - r ≤ 9223372036854775807 := by omega
        go_enter Try.func28, Try.ntmps28
        go_wp2_with (at_builtin; refine wp_app rfl _ _ rfl w.heap.size (.slice (some ⟨w.heap.size, 0, none⟩) 0 0) [] bs a cap _ rfl rfl HO.out ⟨HS.out.1.below ((Below.refl _ _).alloc (Nat.le_refl _) _), HS.out.2⟩ (by simp; omega) (by have := HZ.out; omega) ?_)
        intro v' w2 ho hg
        have HF := Lib.hid (FIN.out v' w2 ho hg)
        clear ho hg
        go_wp2
        go_ret2
        exact HF.out
theorem app_frame {B : Nat} {w W W' : World} {v : Value} {acc : List UInt8} (hb : Below B w W) (hB : B ≤ W.heap.size) (ho : OwnB B v acc W) (hg : W.grownBy W' v.ownBlock) : Below B w W' :=
  hb.grown hg hB fun j hj => (World.ownsRow.lt (w := W) ho j hj).1
theorem Src1.below {a : Option Addr} {bs : List UInt8} {cap : Nat} {w w' : World} (h : Src1 a bs cap w) (hb : Below w.heap.size w w') : Src1 a bs cap w' := ⟨h.1.below hb, h.2⟩
theorem elemU8 : Try.prog.underlying 22 = some (.slice (Try.prog.elem 22)) := by kernel_rfl
theorem sizeElem (w : World) : (sizeOf (Try.prog.elem 22)).run Try.prog w = .ok 1 w := by kernel_rfl
theorem slice_pre (a : Option Addr) (bs : List UInt8) (cap p : Nat) (w : World) (hp : p ≤ bs.length) (hc : bs.length ≤ cap) (hs : Src1 a bs cap w) :
    ∃ A C, (∀ W, (Instr.slice 22 (.slice a bs.length cap) none (some (.int .i64 (p : Int))) none).run Try.prog W = .ok (.slice A (bs.take p).length C) W) ∧ Src1 A (bs.take p) C w := by
  refine ⟨if cap = 0 then a else a.map (·.add (0 * 1)), cap, fun W => ?_, ?_, ?_⟩
  · rw [run_slice_h W 22 a bs.length cap elemU8 .i64 (p : Int) (by omega) (by omega), sizeElem]
    simp [Result.andThen, sliced]
    omega
  · intro j hj
    have hjl : j < bs.length := by rw [List.length_take] at hj; omega
    obtain ⟨b, off, rfl, hcell⟩ := hs.1 j hjl
    refine ⟨b, off, ?_, ?_⟩
    · by_cases h0 : cap = 0
      · rw [if_pos h0]
      · rw [if_neg h0]; simp [Addr.add]
    · rw [hcell, List.getElem_take]
  · intro h
    by_cases h0 : cap = 0
    · exact h0
    · rw [if_neg h0] at h
      exact hs.2 (by cases a with
        | none => rfl
        | some x => simp at h)
theorem slice_post (a : Option Addr) (bs : List UInt8) (cap m : Nat) (w : World) (hp : m ≤ bs.length) (hc : bs.length ≤ cap) (hs : Src1 a bs cap w) :
    ∃ A C, (∀ W, (Instr.slice 22 (.slice a bs.length cap) (some (.int .i64 (m : Int))) none none).run Try.prog W = .ok (.slice A (bs.drop m).length C) W) ∧ Src1 A (bs.drop m) C w := by
  refine ⟨if cap = m then a else a.map (·.add (m * 1)), cap - m, fun W => ?_, ?_, ?_⟩
  · rw [run_slice_l W 22 a bs.length cap elemU8 .i64 (m : Int) (by omega) (by omega), sizeElem]
    simp [Result.andThen, sliced]
  · intro j hj
    have hjl : m + j < bs.length := by rw [List.length_drop] at hj; omega
    obtain ⟨b, off, rfl, hcell⟩ := hs.1 (m + j) hjl
    refine ⟨b, off + m, ?_, ?_⟩
    · rw [if_neg (by omega)]
      simp [Go.WideShapes.add_plain]
    · rw [Nat.add_assoc, hcell, List.getElem_drop]
  · intro h
    by_cases h0 : cap = m
    · omega
    · rw [if_neg h0] at h
      have := hs.2 (by cases a with
        | none => rfl
        | some x => simp at h)
      omega
/-- What a splice gives. -/
def spliceOf (bs is : List UInt8) (p q : Nat) : List UInt8 := bs.take p ++ is ++ bs.drop (p + q)
set_option maxRecDepth 100000 in
set_option maxHeartbeats 4000000 in
theorem splice_yes (a ai : Option Addr) (bs is : List UInt8) (cap capi p q : Nat) (w : World) (hl : bs.length ≤ 1048576) (hli : is.length ≤ 1048576) (hc : bs.length ≤ cap) (hs : Src1 a bs cap w) (hi : Src1 ai is capi w) (h : p + q ≤ bs.length) :
    Calls Try.prog 28 #[.slice a bs.length cap, .int .i64 p, .int .i64 q, .slice ai is.length capi] w (BytesOkOut (spliceOf bs is p q) true w) := by
  obtain ⟨A1, C1, hr1, hs1⟩ := slice_pre a bs cap p w (by omega) hc hs
  obtain ⟨m, hm⟩ : ∃ m : Nat, m = p + q := ⟨_, rfl⟩
  obtain ⟨A2, C2, hr2, hs2⟩ := slice_post a bs cap m w (by omega) hc hs
  have HM := Lib.hid hm
  have HS1 := Lib.hid hs1
  have HS2 := Lib.hid hs2
  have HI := Lib.hid hi
  have hl1 : (bs.take p).length ≤ 1048576 := by rw [List.length_take]; omega
  have hl2 : (bs.drop m).length ≤ 1048576 := by rw [List.length_drop]; omega
  have HO := Lib.hid (OwnB.start w)
  have HB0 := Lib.hid ((Below.refl w.heap.size w).alloc (Nat.le_refl _) (.cells #[] 5))
  have g1 : decide ((p : Int) < 0) = false := by simp
  have g2 : decide ((q : Int) < 0) = false := by simp
  have g3 : decide (bs.length < q) = false := by simp; omega
  have g4 : decide ((bs.length : Int) - (q : Int) < (p : Int)) = false := by simp; omega
  have g5 : -9223372036854775808 ≤ (bs.length : Int) - (q : Int) := by omega
  have g6 : (bs.length : Int) - (q : Int) ≤ 9223372036854775807 := by omega
  have hw : IntKind.i64.wrap ((p : Int) + (q : Int)) = (m : Int) := by rw [IntWalk.i64_in _ (by omega)]; omega
  clear hm hs1 hs2 hi hs hc h
  go_enter Try.func28, Try.ntmps28
  go_wp2_with fail
  go_region_law (first
    | (refine step_app rfl (.tmp 33) (.tmp 36) rfl w.heap.size (.slice (some ⟨w.heap.size, 0, none⟩) 0 0) [] (bs.take p) A1 C1 (by simp [Act.eval]) (by simp [Act.eval]) HO.out (HS1.out.below HB0.out.drew) (by simp; omega) HB0.out.size ?_; intro v1 w1 ho1 hg1; have HO1 := Lib.hid ho1; have HB1 := Lib.hid (app_frame HB0.out.drew HB0.out.size HO.out hg1); clear ho1 hg1)
    | (refine step_app rfl (.tmp 37) (.tmp 38) rfl w.heap.size v1 ([] ++ bs.take p) is ai capi (by simp [Act.eval]) (by simp [Act.eval]) HO1.out (HI.out.below HB1.out) (by simp; omega) HB1.out.size ?_; intro v2 w2 ho2 hg2; have HO2 := Lib.hid ho2; have HB2 := Lib.hid (app_frame HB1.out HB1.out.size HO1.out hg2); clear ho2 hg2)
    | (refine step_app rfl (.tmp 39) (.tmp 44) rfl w.heap.size v2 ([] ++ bs.take p ++ is) (bs.drop m) A2 C2 (by simp [Act.eval]) (by simp [Act.eval]) HO2.out (HS2.out.below HB2.out) (by simp; omega) HB2.out.size ?_; intro v3 w3 ho3 hg3; have HO3 := Lib.hid ho3; have HB3 := Lib.hid (app_frame HB2.out HB2.out.size HO2.out hg3); clear ho3 hg3))
  go_wp2
  go_ret2
  have ho := HO3.out
  rw [List.nil_append, HM.out] at ho
  obtain ⟨a3, c3, rfl, hf⟩ := ho.row
  exact ⟨a3, c3, rfl, hf, HB3.out⟩
theorem Row.src {B cap : Nat} {a : Option Addr} {bs : List UInt8} {w : World} (h : Row B a bs cap w) : Src1 a bs cap w := ⟨h.rd, h.2.2⟩
/-- What SpliceBytes gives, whatever the arguments. -/
def spliceB (bs : List UInt8) (k r : Int) (is : List UInt8) : List UInt8 := if 0 ≤ k ∧ 0 ≤ r ∧ k + r ≤ bs.length then spliceOf bs is k.toNat r.toNat else bs
def spliceK (bs : List UInt8) (k r : Int) : Bool := decide (0 ≤ k ∧ 0 ≤ r ∧ k + r ≤ bs.length)
theorem splice_spec (a : Option Addr) (bs : List UInt8) (cap : Nat) (k r : Int) (ai : Option Addr) (is : List UInt8) (capi : Nat) (w : World) (hl : bs.length ≤ 1048576) (hli : is.length ≤ 1048576) (hk : I64 k) (hr : I64 r) (hc : bs.length ≤ cap) (hs : Src1 a bs cap w) (hi : Src1 ai is capi w) :
    Calls Try.prog 28 #[.slice a bs.length cap, .int .i64 k, .int .i64 r, .slice ai is.length capi] w (BytesOkOut (spliceB bs k r is) (spliceK bs k r) w) := by
  by_cases h : 0 ≤ k ∧ 0 ≤ r ∧ k + r ≤ bs.length
  · rw [show spliceB bs k r is = spliceOf bs is k.toNat r.toNat from if_pos h, show spliceK bs k r = true from decide_eq_true h]
    obtain ⟨p, rfl⟩ : ∃ p : Nat, k = (p : Int) := ⟨k.toNat, by omega⟩
    obtain ⟨q, rfl⟩ : ∃ q : Nat, r = (q : Int) := ⟨r.toNat, by omega⟩
    exact splice_yes a ai bs is cap capi p q w hl hli hc hs hi (by omega)
  · rw [show spliceB bs k r is = bs from if_neg h, show spliceK bs k r = false from decide_eq_false h]
    exact splice_no a ai bs is cap capi k r w hl hr.2 hk.2 hs h
theorem spliceB_length (bs : List UInt8) (k r : Int) (is : List UInt8) (h : bs.length ≤ 1048576) (hi : is.length ≤ 1048576) : (spliceB bs k r is).length ≤ 4194304 := by
  unfold spliceB
  by_cases hc : 0 ≤ k ∧ 0 ≤ r ∧ k + r ≤ bs.length
  · rw [if_pos hc]
    unfold spliceOf
    simp
    omega
  · rw [if_neg hc]; omega
end Go.Proofs.Ythgcfdhndmgjlaa
