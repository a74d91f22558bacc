/- Appending what a slice holds to bytes that the call owns (out of Splice: never import both). A cell that was there, behind a frame. Parts of a slice of bytes: from an index on; between two, with no room behind (takeBytes). Contracts of the model's functions on hexadecimal digits. Contract of the model's ParseHex. Numbers and hexadecimal digits that are read out of a text, as data. No program is walked here. The contracts of ReadDigits, the model's and the program's. The contracts of ReadTerminated, the model's and the program's. -/
import Derived.Test.YtefkhknfjohnaaaGPu
import Derived.Laws.AppendOwnNone
import Derived.Deep.RegionLaw
import Derived.Test.YtefkhknfjohnaaaGBase
import Derived.Test.YtefkhknfjohnaaaGEnd
import Derived.IntWalk
import Derived.Test.YtefkhknfjohnaaaGNam
import Derived.Test.YtefkhknfjohnaaaGP
namespace Go.Proofs.Ytefkhknfjohnaaa
open Go Go.RowKit
/-- A slice that may be appended: what it reads as; nil holds nothing. -/
def Src1 (a : Option Addr) (bs : List UInt8) (cap : Nat) (w : World) : Prop := Rd a bs w ∧ (a = none → cap = 0)
set_option maxRecDepth 100000 in
theorem run_app (base : Nat) (ty : TypeId) (v : Value) (acc cs : List UInt8) (a : Option Addr) (cap : Nat) (w : World) (hown : OwnB base v acc w) (hs : Src1 a cs cap w) (hl : acc.length + cs.length ≤ 1099511627776) (hbase : base ≤ w.heap.size) :
    ∃ v' w', (Builtin.append_ #[22, 22] ty #[v, .slice a cs.length cap]).run Try.prog w = .ok v' w' ∧ OwnB base v' (acc ++ cs) w' ∧ w.grownBy w' v.ownBlock := by
  obtain ⟨i0, hi, hz0, hz1, hz2⟩ := infoParts
  rcases a with _ | ad
  · have hcs : cs = [] := by
      cases cs with
      | nil => rfl
      | cons c r => obtain ⟨b, off, h, _⟩ := hs.1 0 (by simp); cases h
    subst hcs
    obtain rfl := hs.2 rfl
    exact ⟨v, w, run_append_owned_none (P := Try.prog) (w := w) base 22 ty 5 i0 1 Try.underlying22 hi v acc.length (acc.map bv) hown, by simpa using hown, World.grownBy.refl _ _⟩
  · obtain ⟨v', w', hr, ho, hg, _⟩ := run_append_own (P := Try.prog) w base 22 ty 5 i0 (.int .u8 0) 1 1 Try.underlying22 hi hz0 hz1 hz2 rfl (by omega) v acc.length (acc.map bv) hown ad cs.length cap (cs.map bv) (by simp)
      (fun j u hj => by
        have hjl : j < cs.length := by
          rcases Nat.lt_or_ge j cs.length with h | h
          · exact h
          · rw [List.getElem?_eq_none (by simpa using h)] at hj; cases hj
        obtain ⟨b, off, hab, hc⟩ := hs.1 j hjl
        injection hab with hab
        subst hab
        rw [Go.WideShapes.add_plain, hc]
        simp [hjl] at hj
        subst hj
        rfl)
      (fun u hu => by
        obtain ⟨b, _, rfl⟩ := List.mem_map.1 hu
        rfl)
      (by unfold maxLen; omega) (by omega) hbase
    refine ⟨v', w', hr, ?_, hg⟩
    unfold OwnB
    rw [List.length_append, List.map_append]
    exact ho
/-- .. as a step of a plain region. -/
theorem wp_app {ops : Array Oper} {rest : List Oper} {o : Oper} {A : Act} {Q : Exit → Act → World → Prop} (hgd : o.guard = none) (s x : Operand)
    (ho : o.op = .call { callee := .builtin .append, args := #[s, x], argTypes := #[22, 22] })
    (base : Nat) (v : Value) (acc cs : List UInt8) (a : Option Addr) (cap : Nat) (w : World) (hsv : A.eval s = v) (hxv : A.eval x = .slice a cs.length cap)
    (hown : OwnB base v acc w) (hs : Src1 a cs cap w) (hl : acc.length + cs.length ≤ 1099511627776) (hbase : base ≤ w.heap.size)
    (h : ∀ v' w', OwnB base v' (acc ++ cs) w' → w.grownBy w' v.ownBlock → wpList Try.prog ops Q rest (A.put o.dst v') w') : wpList Try.prog ops Q (o :: rest) A w := by
  refine wpList_plain hgd fun K hK => ?_
  obtain ⟨v', w', hr, h2, h3⟩ := run_app base o.type v acc cs a cap w hown hs hl hbase
  unfold Oper.wp
  simp [execOp, ho, resolve, invoke, builtin, hsv, hxv, hr, Result.andThen]
  exact hK _ _ (h v' w' h2 h3)
/-- .. as a step of a region that draws its order. -/
theorem step_app {ops : Array Oper} {o : Oper} {A : Act} {w : World} {K : Act → World → Prop} {Q : Exit → Act → World → Prop} {E : Prop} (hgd : o.guard = none) (s x : Operand)
    (ho : o.op = .call { callee := .builtin .append, args := #[s, x], argTypes := #[22, 22] })
    (base : Nat) (v : Value) (acc cs : List UInt8) (a : Option Addr) (cap : Nat) (hsv : A.eval s = v) (hxv : A.eval x = .slice a cs.length cap)
    (hown : OwnB base v acc w) (hs : Src1 a cs cap w) (hl : acc.length + cs.length ≤ 1099511627776) (hbase : base ≤ w.heap.size)
    (h : ∀ v' w', OwnB base v' (acc ++ cs) w' → w.grownBy w' v.ownBlock → K (A.put o.dst v') w') :
    if Region.wanted o (yielded ops A.tmps) = true then Oper.wp Try.prog o A w K Q else E := by
  have hw : Region.wanted o (yielded ops A.tmps) = true := by simp [Region.wanted, hgd]
  rw [if_pos hw]
  obtain ⟨v', w', hr, h2, h3⟩ := run_app base o.type v acc cs a cap w hown hs hl hbase
  unfold Oper.wp
  simp [execOp, ho, resolve, invoke, builtin, hsv, hxv, hr, Result.andThen]
  exact h v' w' h2 h3
theorem app_frame {B : Nat} {w W W' : World} {v : Value} {acc : List UInt8} (hb : Below B w W) (hB : B ≤ W.heap.size) (ho : OwnB B v acc W) (hg : W.grownBy W' v.ownBlock) : Below B w W' :=
  hb.grown hg hB fun j hj => (World.ownsRow.lt (w := W) ho j hj).1
theorem Src1.below {a : Option Addr} {bs : List UInt8} {cap : Nat} {w w' : World} (h : Src1 a bs cap w) (hb : Below w.heap.size w w') : Src1 a bs cap w' := ⟨h.1.below hb, h.2⟩
theorem Row.src {B cap : Nat} {a : Option Addr} {bs : List UInt8} {w : World} (h : Row B a bs cap w) : Src1 a bs cap w := ⟨h.rd, h.2.2⟩
end Go.Proofs.Ytefkhknfjohnaaa
namespace Go.Proofs.Ytefkhknfjohnaaa
open Go Go.RowKit
theorem cellK {B : Nat} {w w' : World} {b i : Nat} {v : Value} (h : Below B w w') (hB : w.heap.size ≤ B) (hc : w.cell? ⟨b, i, none⟩ = some v) : w'.cell? ⟨b, i, none⟩ = some v :=
  (h.cell (p := ⟨b, i, none⟩) (Nat.lt_of_lt_of_le (cell_lt hc) hB)).trans hc
end Go.Proofs.Ytefkhknfjohnaaa
namespace Go.Proofs.Ytefkhknfjohnaaa
open Go Go.RowKit
/-- A slice that reads as these bytes, with room for them; nil has no room. -/
def SrcB (a : Option Addr) (bs : List UInt8) (cap : Nat) (w : World) : Prop := Rd a bs w ∧ bs.length ≤ cap ∧ (a = none → cap = 0)
theorem SrcB.below {a : Option Addr} {bs : List UInt8} {cap : Nat} {w w' : World} (h : SrcB a bs cap w) (hb : Below w.heap.size w w') : SrcB a bs cap w' := ⟨h.1.below hb, h.2⟩
theorem Row.srcB {B cap : Nat} {a : Option Addr} {bs : List UInt8} {w : World} (h : Row B a bs cap w) : SrcB a bs cap w := ⟨h.rd, h.2⟩
theorem elem8 : Try.prog.underlying 22 = some (.slice (Try.prog.elem 22)) := by kernel_rfl
theorem size8 (w : World) : (sizeOf (Try.prog.elem 22)).run Try.prog w = .ok 1 w := by kernel_rfl
theorem cut_from (a : Option Addr) (bs : List UInt8) (cap m : Nat) (w : World) (hp : m ≤ bs.length) (hs : SrcB a bs cap w) :
    ∃ A C, (∀ W, (Instr.slice 22 (.slice a bs.length cap) (some (.int .i64 (m : Int))) none none).run Try.prog W = .ok (.slice A (bs.length - m) C) W) ∧ ∀ W, Rd a bs W → Rd A (bs.drop m) W := by
  have hc := hs.2.1
  refine ⟨if cap = m then a else a.map (·.add (m * 1)), cap - m, fun W => ?_, ?_⟩
  · rw [run_slice_l W 22 a bs.length cap elem8 .i64 (m : Int) (by omega) (by omega), size8]
    simp [Result.andThen, sliced]
  · intro W hr j hj
    have hjl : m + j < bs.length := by rw [List.length_drop] at hj; omega
    obtain ⟨b, off, rfl, hcell⟩ := hr (m + j) hjl
    refine ⟨b, off + m, ?_, ?_⟩
    · rw [if_neg (by omega)]
      simp [Go.WideShapes.add_plain]
    · rw [Nat.add_assoc, hcell, List.getElem_drop]
theorem cut_part (a : Option Addr) (bs : List UInt8) (cap p q : Nat) (w : World) (hpq : p ≤ q) (hq : q ≤ bs.length) (hs : SrcB a bs cap w) :
    ∃ A, (∀ W, (Instr.slice 22 (.slice a bs.length cap) (some (.int .i64 (p : Int))) (some (.int .i64 (q : Int))) (some (.int .i64 (q : Int)))).run Try.prog W = .ok (.slice A (q - p) (q - p)) W) ∧ ∀ W, SrcB a bs cap W → SrcB A ((bs.drop p).take (q - p)) (q - p) W := by
  have hc := hs.2.1
  have hlen : ((bs.drop p).take (q - p)).length = q - p := by rw [List.length_take, List.length_drop]; omega
  refine ⟨if q = p then a else a.map (·.add (p * 1)), fun W => ?_, fun W hr => ⟨?_, by omega, ?_⟩⟩
  · rw [run_slice_lhm W 22 a bs.length cap elem8 .i64 .i64 .i64 (p : Int) (q : Int) (q : Int) (by omega) (by omega) (by omega) (by omega), size8]
    simp [Result.andThen, sliced]
  · intro j hj
    have hj2 : j < q - p := by omega
    obtain ⟨b, off, rfl, hcell⟩ := hr.1 (p + j) (by omega)
    refine ⟨b, off + p, ?_, ?_⟩
    · rw [if_neg (by omega)]
      simp [Go.WideShapes.add_plain]
    · rw [Nat.add_assoc, hcell, List.getElem_take, List.getElem_drop]
  · intro h
    by_cases h0 : q = p
    · omega
    · rw [if_neg h0] at h
      have := hr.2.2 (by cases a with
        | none => rfl
        | some x => simp at h)
      omega
end Go.Proofs.Ytefkhknfjohnaaa
namespace Go.Proofs.Ytefkhknfjohnaaa
open Go Go.RowKit
/-- A hexadecimal digit. -/
def hexD (n : Nat) : UInt8 := if n < 10 then UInt8.ofNat (48 + n) else UInt8.ofNat (87 + n)
/-- Two digits for every byte. -/
def hexL : List UInt8 → List UInt8
  | [] => []
  | b :: r => hexD (b.toNat / 16) :: hexD (b.toNat % 16) :: hexL r
theorem hexL_length : ∀ bs : List UInt8, (hexL bs).length = 2 * bs.length
  | [] => rfl
  | b :: r => by simp [hexL, hexL_length r]; omega
theorem hexL_take (bs : List UInt8) : ∀ (k : Nat) (h : k < bs.length), hexL (bs.take (k + 1)) = hexL (bs.take k) ++ [hexD (bs[k].toNat / 16), hexD (bs[k].toNat % 16)] := by
  induction bs with
  | nil => intro k h; simp at h
  | cons b r ih =>
    intro k h
    cases k with
    | zero => simp [hexL]
    | succ k =>
      simp only [List.take_succ_cons, hexL, List.getElem_cons_succ, List.cons_append]
      rw [ih k (by simpa using h)]
/-- The text of the sixteen digits. -/
def hexText : ByteArray := ⟨#[48, 49, 50, 51, 52, 53, 54, 55, 56, 57, 97, 98, 99, 100, 101, 102]⟩
theorem hexText_at : ∀ p : Fin 16, hexText.extract p.val (p.val + 1) = ⟨#[hexD p.val]⟩ := by decide +kernel
theorem run_digit (p : Nat) (h : p < 16) (W : World) :
    (Instr.slice 9 (.string ⟨#[48, 49, 50, 51, 52, 53, 54, 55, 56, 57, 97, 98, 99, 100, 101, 102]⟩) (some (.int .i64 (p : Int))) (some (.int .i64 ((p : Int) + 1))) none).run Try.prog W = .ok (.string ⟨#[hexD p]⟩) W := by
  have e : (⟨#[48, 49, 50, 51, 52, 53, 54, 55, 56, 57, 97, 98, 99, 100, 101, 102]⟩ : ByteArray) = hexText := rfl
  have hz : hexText.size = 16 := rfl
  rw [e, run_slice_string _ _ _ _ _ _ _ Try.underlying9 (by omega) (by omega) (by rw [hz]; omega)]
  have h1 := hexText_at ⟨p, h⟩
  rw [show ((p : Int)).toNat = p by omega, show ((p : Int) + 1).toNat = p + 1 by omega, h1]
theorem add_last (W : World) (l : List UInt8) (c : UInt8) (h : l.length ≤ 4611686018427387904) :
    (Op.stringOp .add ⟨l.toArray⟩ ⟨#[c]⟩).run Try.prog W = .ok (.string ⟨(l ++ [c]).toArray⟩) W := by
  have e1 : (⟨l.toArray⟩ : ByteArray).size = l.length := by simp [ByteArray.size]
  have e2 : (⟨#[c]⟩ : ByteArray).size = 1 := rfl
  rw [run_string_add_sum W _ _ (by omega), show (⟨#[c]⟩ : ByteArray) = ⟨[c].toArray⟩ from rfl, ByteArray.mk_append_mk]
end Go.Proofs.Ytefkhknfjohnaaa
namespace Go.Proofs.Ytefkhknfjohnaaa
open Go Go.RowKit
/-- The value of a hexadecimal digit, -1 if it is none. -/
def hexV (c : UInt8) : Int := if 48 ≤ c.toNat ∧ c.toNat ≤ 57 then (c.toNat : Int) - 48 else if 97 ≤ c.toNat ∧ c.toNat ≤ 102 then (c.toNat : Int) - 87 else -1
theorem hexV_bounds (c : UInt8) : -1 ≤ hexV c ∧ hexV c ≤ 15 := by
  unfold hexV
  by_cases h1 : 48 ≤ c.toNat ∧ c.toNat ≤ 57
  · rw [if_pos h1]; omega
  · rw [if_neg h1]
    by_cases h2 : 97 ≤ c.toNat ∧ c.toNat ≤ 102
    · rw [if_pos h2]; omega
    · rw [if_neg h2]; omega
/-- The bytes of these digits. -/
def unhex : List UInt8 → Option (List UInt8)
  | [] => some []
  | [_] => none
  | a :: b :: r => if 0 ≤ hexV a ∧ 0 ≤ hexV b then (unhex r).map (UInt8.ofNat (hexV a * 16 + hexV b).toNat :: ·) else none
/-- New bytes and a bool come back. -/
def BytesOkOut (bs : List UInt8) (ok : Bool) (w : World) (e : Ending) (w' : World) : Prop :=
  ∃ a cap, e = .returned (.tuple #[.slice a bs.length cap, .bool ok]) ∧ Row w.heap.size a bs cap w' ∧ Below w.heap.size w w'
/-- What ParseHex gives. -/
def parseHexOf (l : List UInt8) : List UInt8 × Bool := match unhex l with
  | some bs => (bs, true)
  | none => ([], false)
theorem unhex_odd : ∀ (n : Nat) (l : List UInt8), l.length = 2 * n + 1 → unhex l = none
  | 0, l, h => by
    match l, h with
    | [a], _ => rfl
  | n + 1, l, h => by
    match l, h with
    | a :: b :: r, h =>
      have hr := unhex_odd n r (by simp at h; omega)
      simp [unhex, hr]
theorem bytes_len (s : ByteArray) : s.data.toList.length = s.size := by show s.data.toList.length = s.data.size; simp
/-- What holds at the head of a round. -/
def RelX (s : ByteArray) (w : World) (v i : Value) (W : World) : Prop :=
  ∃ (p : Nat) (acc : List UInt8), p ≤ s.size ∧ Hid (p % 2 = 0) ∧ acc.length ≤ p ∧ i = .int .i64 (p : Int) ∧ Hid (unhex s.data.toList = (unhex (s.data.toList.drop p)).map (acc ++ ·)) ∧ Hid (OwnB w.heap.size v acc W) ∧ Hid (Below w.heap.size w W)
theorem unhex_start (l : List UInt8) : unhex l = (unhex (l.drop 0)).map ([] ++ ·) := by
  simp only [List.drop_zero, List.nil_append]
  cases unhex l <;> rfl
theorem hex_some {s : ByteArray} {acc : List UInt8} {v : Value} {w W : World} {p : Nat} (hp : s.size ≤ p) (h : unhex s.data.toList = (unhex (s.data.toList.drop p)).map (acc ++ ·)) (hown : OwnB w.heap.size v acc W) (hb : Below w.heap.size w W) :
    BytesOkOut (parseHexOf s.data.toList).1 (parseHexOf s.data.toList).2 w (.returned (.tuple #[v, .bool true])) W := by
  rw [List.drop_of_length_le (by rw [bytes_len]; exact hp)] at h
  have e : unhex s.data.toList = some acc := by rw [h]; simp [unhex]
  unfold parseHexOf
  rw [e]
  obtain ⟨a, cap, rfl, hf⟩ := hown.row
  exact ⟨a, cap, rfl, hf, hb⟩
theorem ownB_push {x : UInt8} {acc : List UInt8} {v v' : Value} {w W W2 : World} {o : Obj} (hown : OwnB w.heap.size v acc W) (hb : Below w.heap.size w W)
    (hown' : W2.ownsRow w.heap.size 5 1 v' (acc.length + 1) (acc.map bv ++ [bv x])) (hg : (W.alloc o).grownBy W2 v.ownBlock) : OwnB w.heap.size v' (acc ++ [x]) W2 ∧ Below w.heap.size w W2 := by
  refine ⟨?_, ?_⟩
  · unfold OwnB; simpa using hown'
  · exact (hb.alloc hb.size o).grown hg (by have := hb.size; simp; omega) fun k hk => (World.ownsRow.lt (w := W) hown k hk).1
theorem drop_two (s : ByteArray) (k : Nat) (h : k + 1 < s.size) : s.data.toList.drop k = s[k] :: s[k + 1] :: s.data.toList.drop (k + 2) := by
  have h1 : k < s.data.toList.length := by rw [bytes_len]; omega
  have h2 : k + 1 < s.data.toList.length := by rw [bytes_len]; omega
  rw [List.drop_eq_getElem_cons h1, List.drop_eq_getElem_cons h2]
  rfl
theorem unhex_step {l r acc : List UInt8} {a b : UInt8} (h : unhex l = (unhex (a :: b :: r)).map (acc ++ ·)) (ha : 0 ≤ hexV a) (hb : 0 ≤ hexV b) :
    unhex l = (unhex r).map ((acc ++ [UInt8.ofNat (hexV a * 16 + hexV b).toNat]) ++ ·) := by
  rw [h, unhex, if_pos ⟨ha, hb⟩]
  cases unhex r <;> simp
theorem unhex_bad {l r acc : List UInt8} {a b : UInt8} (h : unhex l = (unhex (a :: b :: r)).map (acc ++ ·)) (hn : ¬ (0 ≤ hexV a ∧ 0 ≤ hexV b)) : unhex l = none := by
  rw [h, unhex, if_neg hn]; rfl
theorem hex_none {s : ByteArray} {w W : World} (h : unhex s.data.toList = none) (hb : Below w.heap.size w W) :
    BytesOkOut (parseHexOf s.data.toList).1 (parseHexOf s.data.toList).2 w (.returned (.tuple #[.slice (some ⟨W.heap.size, 0, none⟩) 0 0, .bool false])) (W.alloc (.cells #[] 5)) := by
  unfold parseHexOf
  rw [h]
  exact ⟨_, _, rfl, ⟨.inl rfl, Nat.le_refl _, (fun e => by cases e)⟩, hb.alloc hb.size _⟩
theorem unhex_length : ∀ (n : Nat) (l bs : List UInt8), l.length ≤ n → unhex l = some bs → bs.length ≤ l.length
  | _, [], bs, _, h => by
    simp only [unhex, Option.some.injEq] at h
    subst h; simp
  | _, [_], bs, _, h => by simp [unhex] at h
  | 0, a :: b :: r, bs, hn, h => by simp at hn
  | n + 1, a :: b :: r, bs, hn, h => by
    rw [unhex] at h
    by_cases hab : 0 ≤ hexV a ∧ 0 ≤ hexV b
    · rw [if_pos hab] at h
      cases hr : unhex r with
      | none => simp [hr] at h
      | some cs =>
        have := unhex_length n r cs (by simp at hn; omega) hr
        simp only [hr, Option.map_some, Option.some.injEq] at h
        subst h
        simp; omega
    · rw [if_neg hab] at h; cases h
theorem parseHexOf_length (s : ByteArray) : (parseHexOf s.data.toList).1.length ≤ s.size := by
  unfold parseHexOf
  cases h : unhex s.data.toList with
  | none => simp
  | some bs =>
    have := unhex_length _ _ _ (Nat.le_refl _) h
    rw [bytes_len] at this
    exact this
end Go.Proofs.Ytefkhknfjohnaaa
namespace Go.Proofs.Ytefkhknfjohnaaa
open Go Go.RowKit
/-- The number that leading digits add to a number, m digits at most, and how many digits there are. -/
def readD : Nat → List UInt8 → Nat → Nat × Nat
  | 0, _, n => (n, 0)
  | _ + 1, [], n => (n, 0)
  | m + 1, c :: l, n => if 48 ≤ c.toNat ∧ c.toNat ≤ 57 then ((readD m l (n * 10 + (c.toNat - 48))).1, (readD m l (n * 10 + (c.toNat - 48))).2 + 1) else (n, 0)
theorem readD_nil (m n : Nat) : readD m [] n = (n, 0) := by cases m <;> rfl
theorem readD_stop {m n : Nat} {c : UInt8} {l : List UInt8} (h : ¬ (48 ≤ c.toNat ∧ c.toNat ≤ 57)) : readD m (c :: l) n = (n, 0) := by
  cases m with
  | zero => rfl
  | succ m => rw [readD, if_neg h]
theorem readD_len : ∀ (m : Nat) (l : List UInt8) (n : Nat), (readD m l n).2 ≤ l.length ∧ (readD m l n).2 ≤ m
  | 0, _, _ => ⟨Nat.zero_le _, Nat.le_refl _⟩
  | _ + 1, [], _ => ⟨Nat.zero_le _, Nat.zero_le _⟩
  | m + 1, c :: l, n => by
    rw [readD]
    split
    · have := readD_len m l (n * 10 + (c.toNat - 48)); simp; omega
    · simp
theorem readD_le : ∀ (m : Nat) (l : List UInt8) (n : Nat), (readD m l n).1 + 1 ≤ (n + 1) * 10 ^ m
  | 0, _, n => by simp [readD]
  | m + 1, [], n => by
    have : 0 < 10 ^ (m + 1) := Nat.pos_of_ne_zero (by simp)
    rw [readD]; exact Nat.le_mul_of_pos_right _ this
  | m + 1, c :: l, n => by
    rw [readD]
    split
    · rename_i h
      have h1 := readD_le m l (n * 10 + (c.toNat - 48))
      have h2 : (n * 10 + (c.toNat - 48) + 1) * 10 ^ m ≤ ((n + 1) * 10) * 10 ^ m := Nat.mul_le_mul_right _ (by omega)
      have h3 : ((n + 1) * 10) * 10 ^ m = (n + 1) * 10 ^ (m + 1) := by rw [Nat.pow_succ, Nat.mul_assoc, Nat.mul_comm 10]
      show (readD m l (n * 10 + (c.toNat - 48))).1 + 1 ≤ _
      omega
    · have : 0 < 10 ^ (m + 1) := Nat.pos_of_ne_zero (by simp)
      exact Nat.le_mul_of_pos_right _ this
theorem readD_ten (l : List UInt8) : (readD 10 l 0).1 ≤ 9999999999 := by have := readD_le 10 l 0; omega
/-- What ReadDigits gives. -/
noncomputable def digN (s : ByteArray) (at_ : Int) : Int := if 0 ≤ at_ ∧ at_ < (s.size : Int) then ((readD 10 ((lst s).drop at_.toNat) 0).1 : Int) else 0
noncomputable def digE (s : ByteArray) (at_ : Int) : Int := if 0 ≤ at_ ∧ at_ < (s.size : Int) then at_ + ((readD 10 ((lst s).drop at_.toNat) 0).2 : Int) else at_
theorem dig_at {s : ByteArray} {p : Nat} (h : p ≤ s.size) : digN s (p : Int) = ((readD 10 ((lst s).drop p) 0).1 : Int) ∧ digE s (p : Int) = ((p + (readD 10 ((lst s).drop p) 0).2 : Nat) : Int) := by
  unfold digN digE
  by_cases h1 : p < s.size
  · rw [if_pos (by omega), if_pos (by omega), Int.toNat_natCast]
    exact ⟨rfl, by omega⟩
  · have : p = s.size := by omega
    subst this
    rw [if_neg (by omega), if_neg (by omega), drop_end, readD_nil]
    exact ⟨rfl, by omega⟩
/-- The bytes of the leading pairs of hexadecimal digits, and how many digits these are. -/
def readH : List UInt8 → List UInt8 × Nat
  | a :: b :: l => if 0 ≤ hexV a ∧ 0 ≤ hexV b then (UInt8.ofNat (hexV a * 16 + hexV b).toNat :: (readH l).1, (readH l).2 + 2) else ([], 0)
  | _ => ([], 0)
/-- How many leading hexadecimal digits there are. -/
def runH : List UInt8 → Nat
  | a :: l => if 0 ≤ hexV a then runH l + 1 else 0
  | [] => 0
theorem readH_unhex : ∀ (n : Nat) (l : List UInt8), l.length ≤ n → unhex (l.take (readH l).2) = some (readH l).1 ∧ (readH l).2 ≤ l.length ∧ (readH l).2 = 2 * (readH l).1.length
  | 0, l, h => by
    have : l = [] := List.eq_nil_of_length_eq_zero (by omega)
    subst this
    simp [readH, unhex]
  | n + 1, l, h => by
    match l, h with
    | [], _ => simp [readH, unhex]
    | [a], _ => simp [readH, unhex]
    | a :: b :: l, h =>
      rw [readH]
      split
      · rename_i hh
        obtain ⟨h1, h2, h3⟩ := readH_unhex n l (by simp at h; omega)
        refine ⟨?_, by simp; omega, by simp; omega⟩
        simp only [List.take_succ_cons, unhex]
        rw [if_pos hh, h1]
        rfl
      · simp [unhex]
theorem runH_read : ∀ (n : Nat) (l : List UInt8), l.length ≤ n → runH l - runH l % 2 = (readH l).2
  | 0, l, h => by
    have : l = [] := List.eq_nil_of_length_eq_zero (by omega)
    subst this
    simp [readH, runH]
  | n + 1, l, h => by
    match l, h with
    | [], _ => simp [readH, runH]
    | [a], _ => simp only [readH, runH]; split <;> simp
    | a :: b :: l, h =>
      have ih := runH_read n l (by simp at h; omega)
      simp only [readH, runH]
      by_cases ha : 0 ≤ hexV a
      · by_cases hb : 0 ≤ hexV b
        · rw [if_pos ha, if_pos hb, if_pos ⟨ha, hb⟩]
          show _ = (readH l).2 + 2
          rw [← ih]
          omega
        · rw [if_pos ha, if_neg hb, if_neg (fun h => hb h.2)]
      · rw [if_neg ha, if_neg (fun h => ha h.1)]
theorem runH_len : ∀ l : List UInt8, runH l ≤ l.length
  | [] => Nat.le_refl _
  | a :: l => by rw [runH]; have := runH_len l; split <;> simp; omega
/-- What ReadHexDigits gives. -/
noncomputable def hexRB (s : ByteArray) (at_ : Int) : List UInt8 := if 0 ≤ at_ ∧ at_ ≤ (s.size : Int) then (readH ((lst s).drop at_.toNat)).1 else []
noncomputable def hexRE (s : ByteArray) (at_ : Int) : Int := if 0 ≤ at_ ∧ at_ ≤ (s.size : Int) then at_ + ((readH ((lst s).drop at_.toNat)).2 : Int) else at_
theorem hexR_at {s : ByteArray} {p : Nat} (h : p ≤ s.size) : hexRB s (p : Int) = (readH ((lst s).drop p)).1 ∧ hexRE s (p : Int) = ((p + (readH ((lst s).drop p)).2 : Nat) : Int) := by
  unfold hexRB hexRE
  rw [if_pos (by omega), if_pos (by omega), Int.toNat_natCast]
  exact ⟨rfl, by omega⟩
theorem parse_read {s : ByteArray} {p e : Nat} (he : e = p + (readH ((lst s).drop p)).2) : (parseHexOf (s.extract p e).data.toList).1 = (readH ((lst s).drop p)).1 := by
  have h1 : (s.extract p e).data.toList = ((lst s).drop p).take (readH ((lst s).drop p)).2 := by
    rw [extract_txt, he, Nat.add_sub_cancel_left]
    exact lst_txt _
  rw [h1]
  unfold parseHexOf
  rw [(readH_unhex _ _ (Nat.le_refl _)).1]
end Go.Proofs.Ytefkhknfjohnaaa
namespace Go.Proofs.Ytefkhknfjohnaaa
open Go Go.RowKit
theorem ret_two {a b c d : Int} (h1 : a = c) (h2 : b = d) : (Ending.returned (.tuple #[.int .i64 a, .int .i64 b]) : Ending) = .returned (.tuple #[.int .i64 c, .int .i64 d]) := by rw [h1, h2]
theorem ten_pow {q : Nat} (h : q < 10) : 10 ^ q ≤ 1000000000 := by
  have := Nat.pow_le_pow_right (n := 10) (by omega) (show q ≤ 9 from by omega)
  omega
/-- What one digit more says. -/
theorem readD_dig {s : ByteArray} {p q x : Nat} {R : Nat × Nat} (hlt : p + q < s.size) (hq : q < 10) (hr : R = ((readD (10 - q) ((lst s).drop (p + q)) x).1, (readD (10 - q) ((lst s).drop (p + q)) x).2 + q)) (h0 : 48 ≤ s[p + q].toNat) (h1 : s[p + q].toNat ≤ 57) :
    R = ((readD (10 - (q + 1)) ((lst s).drop (p + (q + 1))) (x * 10 + (s[p + q].toNat - 48))).1, (readD (10 - (q + 1)) ((lst s).drop (p + (q + 1))) (x * 10 + (s[p + q].toNat - 48))).2 + (q + 1)) := by
  obtain ⟨m, hm⟩ : ∃ m, 10 - q = m + 1 := ⟨9 - q, by omega⟩
  rw [hr, hm, drop_at s (p + q) hlt, readD, if_pos ⟨h0, h1⟩, show 10 - (q + 1) = m from by omega, show p + (q + 1) = p + q + 1 from by omega]
  simp only [Prod.mk.injEq, true_and]
  omega
/-- What no digit more says. -/
theorem readD_fin {s : ByteArray} {p q x : Nat} {R : Nat × Nat} (hp : p + q ≤ s.size) (hr : R = ((readD (10 - q) ((lst s).drop (p + q)) x).1, (readD (10 - q) ((lst s).drop (p + q)) x).2 + q)) (hn : q = 10 ∨ p + q = s.size ∨ ∃ h : p + q < s.size, ¬ (48 ≤ s[p + q].toNat ∧ s[p + q].toNat ≤ 57)) (hq : q ≤ 10) : R = (x, q) := by
  rw [hr]
  rcases hn with rfl | h | ⟨h, hd⟩
  · rw [show 10 - 10 = 0 from rfl, readD, Nat.zero_add]
  · rw [h, drop_end, readD_nil]; simp
  · rw [drop_at s (p + q) h, readD_stop hd]; simp
theorem inR_impl (x lo hi : Int) (b : Bool) (w : World) (hb : decide (lo ≤ x ∧ x ≤ hi) = b) :
    Calls Try.prog 34 #[.int .i64 x, .int .i64 lo, .int .i64 hi] w fun e w' => e = .returned (.bool b) ∧ w = w' := by
  subst hb
  by_cases ha : lo ≤ x
  · by_cases hc : x ≤ hi
    · go_enter Try.func34, Try.ntmps34
      go_wp2
      go_ret
      exact ⟨ret_bool (decide_eq_true ⟨ha, hc⟩).symm, rfl⟩
    · have hd : decide (x ≤ hi) = false := by simp [hc]
      go_enter Try.func34, Try.ntmps34
      go_wp2
      go_ret
      first | exact ⟨rfl, rfl⟩ | exact ⟨ret_bool (decide_eq_false (by omega)).symm, rfl⟩ | exact ⟨ret_bool (by simp; omega), rfl⟩
  · have hd : decide (lo ≤ x) = false := by simp [ha]
    go_enter Try.func34, Try.ntmps34
    go_wp2
    go_ret
    first | exact ⟨rfl, rfl⟩ | exact ⟨ret_bool (decide_eq_false (by omega)).symm, rfl⟩ | exact ⟨ret_bool (by simp; omega), rfl⟩
end Go.Proofs.Ytefkhknfjohnaaa
namespace Go.Proofs.Ytefkhknfjohnaaa
open Go Go.RowKit
/-- Bytes in new memory, a number and whether all went well. -/
def TermOut (bs : List UInt8) (n : Int) (ok : Bool) (w : World) (e : Ending) (w' : World) : Prop :=
  ∃ a cap, e = .returned (.tuple #[.slice a bs.length cap, .int .i64 n, .bool ok]) ∧ Row w.heap.size a bs cap w' ∧ Below w.heap.size w w'
theorem push_own {x : UInt8} {acc : List UInt8} {v v' : Value} {w W W2 : World} {o : Obj} (hown : OwnB w.heap.size v acc W) (hb : Below w.heap.size w W)
    (hown' : W2.ownsRow w.heap.size 5 1 v' (acc.length + 1) (acc.map bv ++ [bv x])) (hg : (W.alloc o).grownBy W2 v.ownBlock) : OwnB w.heap.size v' (acc ++ [x]) W2 ∧ Below w.heap.size w W2 := by
  refine ⟨?_, ?_⟩
  · unfold OwnB; simpa using hown'
  · exact (hb.alloc hb.size o).grown hg (by have := hb.size; simp; omega) fun k hk => (World.ownsRow.lt (w := W) hown k hk).1
theorem term_fail {bs : List UInt8} {n : Int} {t : UInt8} {b : Nat} {w W : World} (hbk : b = W.heap.size) (h : termO bs n t = none) (hb : Below w.heap.size w W) : TermOut (termL bs n t) (termN bs n t) (termK bs n t) w (.returned (.tuple #[.slice (some ⟨b, 0, none⟩) 0 0, .int .i64 n, .bool false])) (W.alloc (.cells #[] 5)) := by
  subst hbk
  have e1 : termL bs n t = [] := by unfold termL; rw [h]
  have e2 : termN bs n t = n := by unfold termN; rw [h]
  have e3 : termK bs n t = false := by unfold termK; rw [h]; rfl
  rw [e1, e2, e3]
  exact ⟨_, _, rfl, ⟨.inl rfl, Nat.le_refl _, fun e => by cases e⟩, hb.alloc hb.size _⟩
theorem term_hit {bs : List UInt8} {p k : Nat} {t : UInt8} {acc : List UInt8} {v : Value} {w W : World} {z : Int} (hp : p ≤ bs.length) (h : termR t (bs.drop p) false = some (acc, k - p + 1)) (hz : z = (k : Int) + 1) (hpk : p ≤ k) (hown : OwnB w.heap.size v acc W) (hb : Below w.heap.size w W) :
    TermOut (termL bs p t) (termN bs p t) (termK bs p t) w (.returned (.tuple #[v, .int .i64 z, .bool true])) W := by
  have h0 : termO bs p t = some (acc, k - p + 1) := by unfold termO; rw [if_pos ⟨by omega, by omega⟩, Int.toNat_natCast]; exact h
  have e1 : termL bs p t = acc := by unfold termL; rw [h0]
  have e2 : termN bs p t = (k : Int) + 1 := by unfold termN; rw [h0]; show (p : Int) + ((k - p + 1 : Nat) : Int) = _; omega
  have e3 : termK bs p t = true := by unfold termK; rw [h0]; rfl
  rw [e1, e2, e3, hz]
  obtain ⟨a, cap, rfl, hr⟩ := hown.row
  exact ⟨a, cap, rfl, hr, hb⟩
theorem term_none {bs : List UInt8} {p : Nat} {t : UInt8} (hp : p ≤ bs.length) (h : termR t (bs.drop p) false = none) : termO bs p t = none := by
  unfold termO; rw [if_pos ⟨by omega, by omega⟩, Int.toNat_natCast]; exact h
theorem TermAt.takeY {bs : List UInt8} {p k : Nat} {t y : UInt8} {e : Bool} {acc : List UInt8} (h : TermAt bs p t k e acc) (hp : p ≤ k) (hk : k < bs.length) (hy : y = bs[k]) (hc : e = true ∨ (¬ y = t ∧ ¬ y = 92)) : TermAt bs p t (k + 1) false (acc ++ [y]) := by
  subst hy; exact h.take hp hk hc
theorem TermAt.hitY {bs : List UInt8} {p k : Nat} {t y : UInt8} {acc : List UInt8} (h : TermAt bs p t k false acc) (hk : k < bs.length) (hy : y = bs[k]) (hc : y = t) : termR t (bs.drop p) false = some (acc, k - p + 1) := by
  subst hy; exact h.hit hk hc
theorem TermAt.escY {bs : List UInt8} {p k : Nat} {t y : UInt8} {acc : List UInt8} (h : TermAt bs p t k false acc) (hp : p ≤ k) (hk : k < bs.length) (hy : y = bs[k]) (hc : ¬ y = t) (he : y = 92) : TermAt bs p t (k + 1) true acc := by
  subst hy; exact h.esc hp hk hc he
set_option maxRecDepth 100000 in
set_option maxHeartbeats 4000000 in
theorem term_implN (a : Option Addr) (bs : List UInt8) (cap p : Nat) (t : UInt8) (w : World) (hl : bs.length ≤ 1048576) (hp : p ≤ bs.length) (hsrc : SrcB a bs cap w) :
    Calls Try.prog 9 #[.slice a bs.length cap, .int .i64 (p : Int), .int .u8 (t.toNat : Int)] w (TermOut (termL bs p t) (termN bs p t) (termK bs p t) w) := by
  obtain ⟨i0, hi, hz0, hz1, hz2⟩ := infoParts
  obtain ⟨A, C, hsl, hA⟩ := cut_from a bs cap p w hp hsrc
  have H := Lib.hid (hA w hsrc.1)
  have hin : decide ((0 : Int) ≤ (p : Int) ∧ (p : Int) ≤ (bs.length : Int)) = true := decide_eq_true ⟨by omega, by omega⟩
  have HS := Lib.hid (TermAt.start bs p t)
  obtain ⟨m, hm⟩ : ∃ m, m = bs.length - p := ⟨_, rfl⟩
  rw [← hm] at hsl
  have HM := Lib.hid hm
  clear hsrc hA hm
  go_enter Try.func9, Try.ntmps9
  go_wp2_with ((go_at_call 34; refine (inR_impl _ _ _ true _ hin).mono ?_; rintro e wx ⟨rfl, rfl⟩))
  go_loopw [9, 10, 11, 12, 25] (fun v e _ _ i W => ∃ (k : Nat) (acc : List UInt8) (es : Bool), p ≤ k ∧ k ≤ bs.length ∧ i = .int .i64 ((k - p : Nat) : Int) ∧ e = .bool es ∧ acc.length ≤ k ∧ Hid (TermAt bs p t k es acc) ∧ Hid (OwnB w.heap.size v acc W) ∧ Hid (Below w.heap.size w W)) (fun _ _ _ _ i _ => m - (intOf i).toNat)
  case atStart => exact ⟨p, [], false, Nat.le_refl _, hp, by simp, rfl, Nat.zero_le _, HS, OwnB.start w, (Below.refl _ _).alloc (Nat.le_refl _) _⟩
  case round =>
    clear HS
    obtain ⟨k, acc, es, hpk, hkl, rfl, rfl, hal, HT, hown, hb⟩ := hrel
    obtain ⟨j, hj⟩ : ∃ j, j = k - p := ⟨_, rfl⟩
    rw [← hj]
    have j0 : (0 : Int) ≤ (j : Int) := by omega
    have jb : (j : Int) ≤ 1048576 := by omega
    have jp : (p : Int) + (j : Int) ≤ 1048576 := by omega
    by_cases hlt : k < bs.length
    · have j1 : (j : Int) < (m : Int) := by have := HM.out; omega
      have HJ := Lib.hid hj
      have hjl : j < (bs.drop p).length := by rw [List.length_drop]; omega
      obtain ⟨b, off, rfl, hc0⟩ := H.out j hjl
      have hge : (bs.drop p)[j] = bs[k] := by rw [List.getElem_drop]; congr 1; omega
      obtain ⟨y, hy⟩ : ∃ y, y = bs[k] := ⟨_, rfl⟩
      have hc : wr.cell? ⟨b, off + j, none⟩ = some (.int .u8 (y.toNat : Int)) := by rw [hy, ← hge]; exact cellK hb.out (Nat.le_refl _) hc0
      have HBT := Lib.hid (y.toNat_lt)
      have HY := Lib.hid hy
      clear hc0 hge hjl hy hj
      have HLK := Lib.hid hlt
      cases es with
      | true =>
        have HN := Lib.hid (HT.out.takeY hpk hlt HY.out (.inl rfl))
        clear HT
        go_wp2_with (at_builtin; refine wpList_append_own _ rfl _ _ 22 rfl w.heap.size 5 i0 (.int .u8 0) 1 1 Try.underlying22 hi hz0 hz1 hz2 rfl (by decide) _ _ _ rfl (World.ownsRow.alloc hown.out _) ⟨wr.heap.size, 0, none⟩ 1 1 [.int .u8 (y.toNat : Int)] rfl rfl ?c1 ?c2 ?c3 ?c4 ?c5 ?_)
        case c1 =>
          intro j u hj
          match j, hj with
          | 0, hj => simp at hj; subst hj; simp [Addr.add]
        case c2 => intro u hu; simp at hu; subst hu; rfl
        case c3 => unfold maxLen; omega
        case c4 => omega
        case c5 => have := hb.out.size; simp; omega
        · intro v' w2 hown' hgrow _
          obtain ⟨R1, R2⟩ := push_own (x := y) hown.out hb.out hown' hgrow
          have HR1 := Lib.hid R1
          have HR2 := Lib.hid R2
          clear hown' hgrow R1 R2
          go_wp2
          go_roundw
          case rel => exact ⟨k + 1, acc ++ [y], false, by omega, by omega, (by have := HJ.out; go_num), rfl, by simp; omega, HN, HR1, HR2⟩
          case measure => simp [intOf]; have := HM.out; have := HJ.out; omega
      | false =>
        by_cases hx : y = t
        · have e3 : ((y.toNat : Int) == (t.toNat : Int)) = true := by rw [hx]; simp
          have HX := Lib.hid (HT.out.hitY hlt HY.out hx)
          clear hx HT hal
          go_wp2
          go_ret3
          exact term_hit hp HX.out (by have := HJ.out; omega) hpk hown.out hb.out
        · have e3 : ((y.toNat : Int) == (t.toNat : Int)) = false := by
            rw [beq_eq_false_iff_ne]
            intro h
            exact hx (UInt8.toNat_inj.1 (by omega))
          by_cases h92 : y = 92
          · have e4 : ((y.toNat : Int) == 92) = true := by rw [h92]; rfl
            have HN := Lib.hid (HT.out.escY hpk hlt HY.out hx h92)
            clear hx h92 HT
            go_wp2
            go_roundw
            case rel => exact ⟨k + 1, acc, true, by omega, by omega, (by have := HJ.out; go_num), rfl, by omega, HN, hown, hb⟩
            case measure => simp [intOf]; have := HM.out; have := HJ.out; omega
          · have e4 : ((y.toNat : Int) == 92) = false := by
              rw [beq_eq_false_iff_ne]
              intro h
              exact h92 (UInt8.toNat_inj.1 (by have h2 : (92 : UInt8).toNat = 92 := rfl; omega))
            have HN := Lib.hid (HT.out.takeY hpk hlt HY.out (.inr ⟨hx, h92⟩))
            clear hx h92 HT
            go_wp2_with (at_builtin; refine wpList_append_own _ rfl _ _ 22 rfl w.heap.size 5 i0 (.int .u8 0) 1 1 Try.underlying22 hi hz0 hz1 hz2 rfl (by decide) _ _ _ rfl (World.ownsRow.alloc hown.out _) ⟨wr.heap.size, 0, none⟩ 1 1 [.int .u8 (y.toNat : Int)] rfl rfl ?c1 ?c2 ?c3 ?c4 ?c5 ?_)
            case c1 =>
              intro j u hj
              match j, hj with
              | 0, hj => simp at hj; subst hj; simp [Addr.add]
            case c2 => intro u hu; simp at hu; subst hu; rfl
            case c3 => unfold maxLen; omega
            case c4 => omega
            case c5 => have := hb.out.size; simp; omega
            · intro v' w2 hown' hgrow _
              obtain ⟨R1, R2⟩ := push_own (x := y) hown.out hb.out hown' hgrow
              have HR1 := Lib.hid R1
              have HR2 := Lib.hid R2
              clear hown' hgrow R1 R2
              go_wp2
              go_roundw
              case rel => exact ⟨k + 1, acc ++ [y], false, by omega, by omega, (by have := HJ.out; go_num), rfl, by simp; omega, HN, HR1, HR2⟩
              case measure => simp [intOf]; have := HM.out; have := HJ.out; omega
    · have j1 : ¬ (j : Int) < (m : Int) := by have := HM.out; omega
      have HX := Lib.hid (term_none hp (HT.out.none (by omega)))
      clear HT hj
      go_wp2
      go_ret3
      exact term_fail (by first | rfl | simp) HX.out hb.out
set_option maxRecDepth 100000 in
theorem term_impl (a : Option Addr) (bs : List UInt8) (cap : Nat) (n : Int) (t : UInt8) (w : World) (hl : bs.length ≤ 1048576) (h : SrcB a bs cap w) :
    Calls Try.prog 9 #[.slice a bs.length cap, .int .i64 n, .int .u8 (t.toNat : Int)] w (TermOut (termL bs n t) (termN bs n t) (termK bs n t) w) := by
  by_cases hn : 0 ≤ n ∧ n ≤ (bs.length : Int)
  · obtain ⟨p, rfl⟩ : ∃ p : Nat, n = (p : Int) := ⟨n.toNat, by omega⟩
    exact term_implN a bs cap p t w hl (by omega) h
  · have HX : Hid (termO bs n t = none) := by show termO bs n t = none; unfold termO; rw [if_neg hn]
    have hin : decide ((0 : Int) ≤ n ∧ n ≤ (bs.length : Int)) = false := decide_eq_false hn
    go_enter Try.func9, Try.ntmps9
    go_wp2_with ((go_at_call 34; refine (inR_impl _ _ _ false _ hin).mono ?_; rintro e wx ⟨rfl, rfl⟩))
    try go_wp2
    go_ret3
    exact term_fail (by first | rfl | simp) HX.out (Below.refl _ _)
end Go.Proofs.Ytefkhknfjohnaaa
