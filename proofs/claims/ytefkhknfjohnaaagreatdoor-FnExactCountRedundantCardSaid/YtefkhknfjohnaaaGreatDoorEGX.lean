/- errors.As at a variable of the type readError: -/
import Derived.Test.YtefkhknfjohnaaaGreatDoorEK
import Derived.Test.YtefkhknfjohnaaaGreatDoorEGV
import Derived.LaidEql
import Derived.Stop.Asserts
import Derived.RowKitTokens
import Derived.Test.YtefkhknfjohnaaaGreatDoorEGBase
import Derived.Test.YtefkhknfjohnaaaGreatDoorEGP
import Derived.Test.YtefkhknfjohnaaaGreatDoorEGKS
import Derived.Test.YtefkhknfjohnaaaGreatDoorEGPu
import Derived.Test.YtefkhknfjohnaaaGreatDoorEGVI
import Derived.Test.YtefkhknfjohnaaaGreatDoorEGDI
set_option maxRecDepth 100000
namespace Go.Proofs.YtefkhknfjohnaaaGreatDoor
open Go Go.RowKit Go.Extern.Stop Go.Stop Go.Extern
theorem as_none (t : Value) (w : World) : Calls Tryz.prog 125 #[.nilIface, t] w fun e w' => e = .returned (.bool false) ∧ w' = w := by
 go_enter Tryz.func125, Tryz.ntmps125
 go_wp2
 go_ret
 exact ⟨rfl, rfl⟩
/-! Closed facts on the model's entries for internal/reflectlite at this program's types. -/
theorem ae_valueP (t : Addr) (w : World) : (ReflectliteValue.unpack (.iface 158 (.pointer (some t)))).run Tryz.prog w
  = .ok (.agg #[.pointer (some ⟨5, 158, none⟩), .pointer (some ⟨w.heap.size, 0, none⟩), .int .u64 150]) (w.alloc (.cells #[.pointer (some t)] 158)) := by kernel_rfl
theorem ae_typeP (a : Addr) (w : World) : (ReflectliteValue.methodAny (ReflectliteValue.valueError "reflectlite.Value.Type" 0) (fun t _ _ _ => ReflectliteType.toType t) #[.agg #[.pointer (some ⟨5, 158, none⟩), .pointer (some a), .int .u64 150]]).run Tryz.prog w
  = .ok (.iface 234 (.agg #[.pointer (some ⟨5, 158, none⟩)])) w := by kernel_rfl
theorem ae_mKind (h : Value) (w : World) : (Go.method 401 234 (.agg #[h]) "Kind").run Tryz.prog w = .ok (268, h) w := by kernel_rfl
theorem ae_kindP (w : World) : ((ReflectliteType.abiMethod fun t => (fun a : Nat => Value.int IntKind.u8 (a : Int)) <$> Rtype.kind t) #[.pointer (some ⟨5, 158, none⟩)]).run Tryz.prog w = .ok (.int .u8 22) w := by kernel_rfl
theorem ae_kindT (w : World) : ((ReflectliteType.abiMethod fun t => (fun a : Nat => Value.int IntKind.u8 (a : Int)) <$> Rtype.kind t) #[.pointer (some ⟨5, 99, none⟩)]).run Tryz.prog w = .ok (.int .u8 25) w := by kernel_rfl
theorem ae_rlm (z : Sem Value) (f : TypeId → Addr → Nat → Nat → Sem Value) (v : Value) :
  ReflectliteValue.method z f #[v] = (do match ← ReflectliteValue.parts v with | none => z | some (t, a, fl) => f t a fl (fl % 32)) := rfl
theorem ae_partsP (a : Addr) (w : World) : (ReflectliteValue.parts (.agg #[.pointer (some ⟨5, 158, none⟩), .pointer (some a), .int .u64 150])).run Tryz.prog w = .ok (some (158, a, 150)) w := by kernel_rfl
theorem ae_isNil (a p : Addr) (W : World) (ha : W.cell? a = some (.pointer (some p))) :
  (ReflectliteValue.method (ReflectliteValue.valueError "reflectlite.Value.IsNil" 0) ReflectliteValue.isNil #[.agg #[.pointer (some ⟨5, 158, none⟩), .pointer (some a), .int .u64 150]]).run Tryz.prog W = .ok (.bool false) W := by
 rw [ae_rlm]
 simp only [Sem.run_bind, ae_partsP, Result.andThen]
 simp [ReflectliteValue.isNil, loadVar, isAgg, underlying, Tryz.underlying158, ha, Result.andThen]
theorem ae_mElem (h : Value) (w : World) : (Go.method 401 234 (.agg #[h]) "Elem").run Tryz.prog w = .ok (287, .agg #[h]) w := by kernel_rfl
theorem ae_mImpl (h : Value) (w : World) : (Go.method 401 234 (.agg #[h]) "Implements").run Tryz.prog w = .ok (288, .agg #[h]) w := by kernel_rfl
theorem ae_mAssign (h : Value) (w : World) : (Go.method 401 234 (.agg #[h]) "AssignableTo").run Tryz.prog w = .ok (285, .agg #[h]) w := by kernel_rfl
theorem ae_elem (w : World) : (ReflectliteType.method ReflectliteType.elem #[.agg #[.pointer (some ⟨5, 158, none⟩)]]).run Tryz.prog w = .ok (.iface 234 (.agg #[.pointer (some ⟨5, 99, none⟩)])) w := by kernel_rfl
theorem ae_impl (w : World) : (ReflectliteType.relation "Implements" ReflectliteType.implements_ #[.agg #[.pointer (some ⟨5, 99, none⟩)], .iface 234 (.agg #[.pointer (some ⟨5, 94, none⟩)])]).run Tryz.prog w = .ok (.bool true) w := by kernel_rfl
theorem ae_typeOf (v : Value) (w : World) : (ReflectliteType.typeOf #[.iface 99 v]).run Tryz.prog w = .ok (.iface 234 (.agg #[.pointer (some ⟨5, 99, none⟩)])) w := by kernel_rfl
theorem ae_assign (w : World) : (ReflectliteType.relation "AssignableTo" ReflectliteType.assignableTo #[.agg #[.pointer (some ⟨5, 99, none⟩)], .iface 234 (.agg #[.pointer (some ⟨5, 99, none⟩)])]).run Tryz.prog w = .ok (.bool true) w := by kernel_rfl
theorem ae_valueT (x y : Int) (w : World) : (ReflectliteValue.unpack (.iface 99 (.agg #[.int .i64 x, .int .i64 y]))).run Tryz.prog w
  = .ok (.agg #[.pointer (some ⟨5, 99, none⟩), .pointer (some ⟨w.heap.size, 0, none⟩), .int .u64 153]) (w.alloc (.cells #[.int .i64 x, .int .i64 y] 99)) := by kernel_rfl
theorem ae_elemOf (w : World) : (Rtype.elem? 158).run Tryz.prog w = .ok (some 99) w := by kernel_rfl
theorem ae_mk (p : Addr) (w : World) : (ReflectliteValue.mk 99 p ReflectliteValue.flagAddr).run Tryz.prog w = .ok (.agg #[.pointer (some ⟨5, 99, none⟩), .pointer (some p), .int .u64 409]) w := by kernel_rfl
theorem ae_elemV (a p : Addr) (W : World) (ha : W.cell? a = some (.pointer (some p))) :
  (ReflectliteValue.method (ReflectliteValue.valueError "reflectlite.Value.Elem" 0) ReflectliteValue.elem #[.agg #[.pointer (some ⟨5, 158, none⟩), .pointer (some a), .int .u64 150]]).run Tryz.prog W
   = .ok (.agg #[.pointer (some ⟨5, 99, none⟩), .pointer (some p), .int .u64 409]) W := by
 rw [ae_rlm]
 simp only [Sem.run_bind, ae_partsP, Result.andThen]
 simp [ReflectliteValue.elem, loadVar, isAgg, underlying, Tryz.underlying158, ha, Result.andThen, ae_elemOf, ae_mk]
theorem ae_rls (v x : Value) : ReflectliteValue.set #[v, x] = (do
  let (some (dst, a, fl), some (src, b, _)) := (← ReflectliteValue.parts v, ← ReflectliteValue.parts x)
   | unsupported (.noEntry "extern/(internal/reflectlite.Value).Set.zeroValue")
  if fl / ReflectliteValue.flagAddr % 2 == 0 then unsupported (.noEntry "extern/(internal/reflectlite.Value).Set.unaddressable")
  let val ← loadVar src b
  if ← Rtype.directlyAssignable dst src then storeVar dst a val
  else if ← Rtype.implements dst src then
   if (← Rtype.kind src) == 20 then
    match val with
    | .nilIface => unsupported (.noEntry "extern/reflectlite: a nil value of one interface type handed on as a value of another")
    | _ => storeVar dst a val
   else storeVar dst a (.iface src val)
  else panicString ("reflectlite.Set: value of type " ++ (← Rtype.spelt src) ++ " is not assignable to type " ++ (← Rtype.spelt dst))
  pure (.tuple #[])) := rfl
theorem ae_partsA (a : Addr) (w : World) : (ReflectliteValue.parts (.agg #[.pointer (some ⟨5, 99, none⟩), .pointer (some a), .int .u64 409])).run Tryz.prog w = .ok (some (99, a, 409)) w := by kernel_rfl
theorem ae_partsT (a : Addr) (w : World) : (ReflectliteValue.parts (.agg #[.pointer (some ⟨5, 99, none⟩), .pointer (some a), .int .u64 153])).run Tryz.prog w = .ok (some (99, a, 153)) w := by kernel_rfl
theorem ae_direct (w : World) : (Rtype.directlyAssignable 99 99).run Tryz.prog w = .ok true w := by kernel_rfl
theorem ae_size (w : World) : (sizeOf 99).run Tryz.prog w = .ok 2 w := by kernel_rfl
theorem ae_agg (w : World) : (isAgg 99).run Tryz.prog w = .ok true w := by kernel_rfl
theorem ae_load (b : Nat) (x y : Int) (W : World) (h0 : W.cell? ⟨b, 0, none⟩ = some (.int .i64 x)) (h1 : W.cell? ⟨b, 1, none⟩ = some (.int .i64 y)) : (loadVar 99 ⟨b, 0, none⟩).run Tryz.prog W = .ok (.agg #[.int .i64 x, .int .i64 y]) W := by
 unfold loadVar
 simp only [Sem.run_bind, ae_agg, Result.andThen, if_true, ae_size]
 simp [loadCells, loadCellsFrom, Addr.add, h0, h1, Result.andThen]
theorem ae_store (t : Nat) (x y : Int) (W : World) {o0 o1 : Value} (h0 : W.cell? ⟨t, 0, none⟩ = some o0) (f0 : W.frozen? ⟨t, 0, none⟩ = false) (h1 : W.cell? ⟨t, 1, none⟩ = some o1) (f1 : W.frozen? ⟨t, 1, none⟩ = false) :
  (storeVar 99 ⟨t, 0, none⟩ (.agg #[.int .i64 x, .int .i64 y])).run Tryz.prog W = .ok () ((W.setCell ⟨t, 0, none⟩ (.int .i64 x)).setCell ⟨t, 1, none⟩ (.int .i64 y)) := by
 have h2 : (W.setCell ⟨t, 0, none⟩ (.int .i64 x)).cell? ⟨t, 1, none⟩ = some o1 := (World.cell?_setCell_other _ _ _ _ (fun e => by injection e with _ e2; cases e2)).trans h1
 unfold storeVar
 simp only [Sem.run_bind, ae_size, Result.andThen]
 simp [Value.cells, storeCells, Addr.add]
 rw [run_store Tryz.prog W ⟨t, 0, none⟩ _ _ (by rfl)]
 simp [h0, f0, Result.andThen]
 rw [run_store Tryz.prog _ ⟨t, 1, none⟩ _ _ (by rfl)]
 simp [h2, f1]
theorem ae_set (ta b : Nat) (x y : Int) (W : World) {o0 o1 : Value} (b0 : W.cell? ⟨b, 0, none⟩ = some (.int .i64 x)) (b1 : W.cell? ⟨b, 1, none⟩ = some (.int .i64 y))
  (h0 : W.cell? ⟨ta, 0, none⟩ = some o0) (f0 : W.frozen? ⟨ta, 0, none⟩ = false) (h1 : W.cell? ⟨ta, 1, none⟩ = some o1) (f1 : W.frozen? ⟨ta, 1, none⟩ = false) :
  (ReflectliteValue.set #[.agg #[.pointer (some ⟨5, 99, none⟩), .pointer (some ⟨ta, 0, none⟩), .int .u64 409], .agg #[.pointer (some ⟨5, 99, none⟩), .pointer (some ⟨b, 0, none⟩), .int .u64 153]]).run Tryz.prog W
   = .ok (.tuple #[]) ((W.setCell ⟨ta, 0, none⟩ (.int .i64 x)).setCell ⟨ta, 1, none⟩ (.int .i64 y)) := by
 rw [ae_rls]
 simp only [Sem.run_bind, ae_partsA, ae_partsT, Result.andThen]
 simp [ReflectliteValue.flagAddr, ae_load b x y W b0 b1, Result.andThen, ae_direct, ae_store ta x y W h0 f0 h1 f1]
set_option maxHeartbeats 4000000 in
theorem as_hit (x y : Int) (t : Nat) {o0 o1 : Value} (w : World) (hg : w.cell? ⟨0, 0, none⟩ = some (.iface 234 (.agg #[.pointer (some ⟨5, 94, none⟩)]))) (ht0 : w.cell? ⟨t, 0, none⟩ = some o0 ∧ w.frozen? ⟨t, 0, none⟩ = false) (ht1 : w.cell? ⟨t, 1, none⟩ = some o1 ∧ w.frozen? ⟨t, 1, none⟩ = false) :
  Calls Tryz.prog 125 #[.iface 99 (.agg #[.int .i64 x, .int .i64 y]), .iface 158 (.pointer (some ⟨t, 0, none⟩))] w fun ev w' => ev = .returned (.bool true) ∧ w' = (((((w.alloc (.cells #[.pointer (some ⟨t, 0, none⟩)] 158)).alloc (.cells #[.pointer (some ⟨5, 158, none⟩), .pointer (some ⟨w.heap.size, 0, none⟩), .int .u64 150] 196)).alloc (.cells #[.pointer (some ⟨5, 158, none⟩), .pointer (some ⟨w.heap.size, 0, none⟩), .int .u64 150] 196)).alloc (.cells #[.int .i64 x, .int .i64 y] 99)).setCell ⟨t, 0, none⟩ (.int .i64 x)).setCell ⟨t, 1, none⟩ (.int .i64 y) := by
 have h6 := @run_callFunc_extern Tryz.prog 169 _ (fun args => ReflectliteValue.unpack (args.getD 0 (.tuple #[]))) Tryz.func169 (by kernel_rfl) (by kernel_rfl) (by kernel_rfl) (by kernel_rfl)
 have h7 := @run_callFunc_extern Tryz.prog 170 _ (ReflectliteValue.methodAny (ReflectliteValue.valueError "reflectlite.Value.Type" 0) (fun t _ _ _ => ReflectliteType.toType t)) Tryz.func170 (by kernel_rfl) (by kernel_rfl) (by kernel_rfl) (by kernel_rfl)
 have h8 := @run_callFunc_extern Tryz.prog 171 _ (ReflectliteValue.method (ReflectliteValue.valueError "reflectlite.Value.IsNil" 0) ReflectliteValue.isNil) Tryz.func171 (by kernel_rfl) (by kernel_rfl) (by kernel_rfl) (by kernel_rfl)
 have h27 := @run_callFunc_extern Tryz.prog 268 _ (ReflectliteType.abiMethod fun t => do pure (.int .u8 (← Rtype.kind t))) Tryz.func268 (by kernel_rfl) (by kernel_rfl) (by kernel_rfl) (by kernel_rfl)
 have h37 := @run_callFunc_extern Tryz.prog 287 _ (ReflectliteType.method ReflectliteType.elem) Tryz.func287 (by kernel_rfl) (by kernel_rfl) (by kernel_rfl) (by kernel_rfl)
 have h38 := @run_callFunc_extern Tryz.prog 288 _ (ReflectliteType.relation "Implements" ReflectliteType.implements_) Tryz.func288 (by kernel_rfl) (by kernel_rfl) (by kernel_rfl) (by kernel_rfl)
 have h10 := @run_callFunc_extern Tryz.prog 212 _ ReflectliteType.typeOf Tryz.func212 (by kernel_rfl) (by kernel_rfl) (by kernel_rfl) (by kernel_rfl)
 have h35 := @run_callFunc_extern Tryz.prog 285 _ (ReflectliteType.relation "AssignableTo" ReflectliteType.assignableTo) Tryz.func285 (by kernel_rfl) (by kernel_rfl) (by kernel_rfl) (by kernel_rfl)
 have h11 := @run_callFunc_extern Tryz.prog 213 _ (ReflectliteValue.method (ReflectliteValue.valueError "reflectlite.Value.Elem" 0) ReflectliteValue.elem) Tryz.func213 (by kernel_rfl) (by kernel_rfl) (by kernel_rfl) (by kernel_rfl)
 have h12 := @run_callFunc_extern Tryz.prog 214 _ ReflectliteValue.set Tryz.func214 (by kernel_rfl) (by kernel_rfl) (by kernel_rfl) (by kernel_rfl)
 have tO := ae_typeOf
 have mA := ae_mAssign
 have a25 := ae_assign
 have v25 := ae_valueT
 have f6 := ae_valueP
 have f7 := ae_typeP
 have mK := ae_mKind
 have mE := ae_mElem
 have mI := ae_mImpl
 have k27 := ae_kindP
 have k25 := ae_kindT
 have e27 := ae_elem
 have i25 := ae_impl
 have n8 := ae_isNil ⟨w.heap.size, 0, none⟩ ⟨t, 0, none⟩ ((w.alloc (.cells #[.pointer (some ⟨t, 0, none⟩)] 158)).alloc (.cells #[.pointer (some ⟨5, 158, none⟩), .pointer (some ⟨w.heap.size, 0, none⟩), .int .u64 150] 196)) (by simp)
 have hlt : 0 < w.heap.size := by
  rcases Nat.eq_zero_or_pos w.heap.size with h0 | h
  ·simp [World.cell?, h0] at hg
  ·exact h
 have hg2 : ((w.alloc (.cells #[.pointer (some ⟨t, 0, none⟩)] 158)).alloc (.cells #[.pointer (some ⟨5, 158, none⟩), .pointer (some ⟨w.heap.size, 0, none⟩), .int .u64 150] 196)).cell? ⟨0, 0, none⟩ = some (.iface 234 (.agg #[.pointer (some ⟨5, 94, none⟩)])) := by
  rw [World.cell?_alloc_lt _ _ ⟨0, 0, none⟩ (by simp), World.cell?_alloc_lt _ _ ⟨0, 0, none⟩ hlt]; exact hg
 have htl : t < w.heap.size := cell_lt ht0.1
 have hb4 : Below w.heap.size w ((((w.alloc (.cells #[.pointer (some ⟨t, 0, none⟩)] 158)).alloc (.cells #[.pointer (some ⟨5, 158, none⟩), .pointer (some ⟨w.heap.size, 0, none⟩), .int .u64 150] 196)).alloc (.cells #[.pointer (some ⟨5, 158, none⟩), .pointer (some ⟨w.heap.size, 0, none⟩), .int .u64 150] 196)).alloc (.cells #[.int .i64 x, .int .i64 y] 99)) := ((((Below.refl _ w).alloc (Nat.le_refl _) _).alloc (by simp) _).alloc (by simp; omega) _).alloc (by simp; omega) _
 have el := ae_elemV ⟨w.heap.size, 0, none⟩ ⟨t, 0, none⟩ (((w.alloc (.cells #[.pointer (some ⟨t, 0, none⟩)] 158)).alloc (.cells #[.pointer (some ⟨5, 158, none⟩), .pointer (some ⟨w.heap.size, 0, none⟩), .int .u64 150] 196)).alloc (.cells #[.pointer (some ⟨5, 158, none⟩), .pointer (some ⟨w.heap.size, 0, none⟩), .int .u64 150] 196)) (by rw [World.cell?_alloc_lt _ _ ⟨w.heap.size, 0, none⟩ (by simp; omega)]; simp)
 have st := ae_set t (w.heap.size + 1 + 1 + 1) x y ((((w.alloc (.cells #[.pointer (some ⟨t, 0, none⟩)] 158)).alloc (.cells #[.pointer (some ⟨5, 158, none⟩), .pointer (some ⟨w.heap.size, 0, none⟩), .int .u64 150] 196)).alloc (.cells #[.pointer (some ⟨5, 158, none⟩), .pointer (some ⟨w.heap.size, 0, none⟩), .int .u64 150] 196)).alloc (.cells #[.int .i64 x, .int .i64 y] 99))
  (by rw [World.cell?_alloc_at _ _ _ _ (by simp)]; rfl)
  (by rw [World.cell?_alloc_at _ _ _ _ (by simp)]; rfl)
  ((hb4.cell (p := ⟨t, 0, none⟩) htl).trans ht0.1) ((hb4.frozen (p := ⟨t, 0, none⟩) htl).trans ht0.2) ((hb4.cell (p := ⟨t, 1, none⟩) htl).trans ht1.1) ((hb4.frozen (p := ⟨t, 1, none⟩) htl).trans ht1.2)
 clear hb4
 go_enter Tryz.func125, Tryz.ntmps125
 go_wp2
 refine wp_loop_rounds 1 ?_
 rw [rounds_succ]
 go_wp2
 go_ret
 exact ⟨rfl, rfl⟩
end Go.Proofs.YtefkhknfjohnaaaGreatDoor
namespace Go.Proofs.YtefkhknfjohnaaaGreatDoor
open Go Go.RowKit
theorem min_spec (a b : Int) (w : World) :
  Calls Tryz.prog 111 #[.int .i64 a, .int .i64 b] w fun e w' => e = .returned (.int .i64 (min a b)) ∧ w = w' := by
 by_cases h : b < a
 ·have hr : Hid (min a b = b) := by show _ = _; omega
  go_enter Tryz.func111, Tryz.ntmps111
  go_wp2
  go_ret
  exact ⟨ret_int hr.out.symm, rfl⟩
 ·have hr : Hid (min a b = a) := by show _ = _; omega
  go_enter Tryz.func111, Tryz.ntmps111
  go_wp2
  go_ret
  exact ⟨ret_int hr.out.symm, rfl⟩
theorem outer_least (a b : Int) (w : World) (c : Nat) (hc : w.cell? ⟨c, 0, none⟩ = some (.int .i64 b)) :
  Calls Tryz.prog 200 #[.bool false, .int .i64 a, .slice (some ⟨c, 0, none⟩) 1 1] w fun e w' => e = .returned (.int .i64 (if b < a then b else a)) ∧ w = w' := by
 by_cases h : b < a
 all_goals
  go_enter Tryz.func200, Tryz.ntmps200
  go_wp2
  go_loop [7, 9, 13] (fun t _ i => ∃ k : Nat, k ≤ 1 ∧ i = .int .i64 k ∧ t = .int .i64 (if k = 1 then (if b < a then b else a) else a)) (fun _ _ i => 1 - (intOf i).toNat)
  case atStart => exact ⟨0, Nat.zero_le _, rfl, rfl⟩
  case round =>
   obtain ⟨k, hk, rfl, rfl⟩ := hrel
   obtain rfl | rfl : k = 0 ∨ k = 1 := by omega
   ·go_wp2
    go_round
    case rel => exact ⟨1, by omega, rfl, by first | rw [if_pos rfl, if_pos h] | rw [if_pos rfl, if_neg (by omega)]⟩
    case measure => simp [intOf]
   ·go_wp2
    go_ret
    exact ⟨rfl, rfl⟩
theorem outer_leastM (a b : Int) (w : World) (c : Nat) (hc : w.cell? ⟨c, 0, none⟩ = some (.int .i64 b)) :
  Calls Tryz.prog 200 #[.bool false, .int .i64 a, .slice (some ⟨c, 0, none⟩) 1 1] w fun e w' => e = .returned (.int .i64 (min a b)) ∧ w = w' :=
 (outer_least a b w c hc).mono fun e w' ⟨h1, h2⟩ => ⟨by rw [h1]; exact ret_int (by split <;> omega), h2⟩
theorem min_impl (a b : Int) (w : World) :
  Calls Tryz.prog 153 #[.int .i64 a, .int .i64 b] w fun e w' => e = .returned (.int .i64 (min a b)) ∧ Below w.heap.size w w' := by
 go_enter Tryz.func153, Tryz.ntmps153
 go_wp2_with (go_at_call 200; refine (outer_leastM a b (w.alloc (Obj.cells #[.int .i64 b] 3)) w.heap.size (by simp)).mono ?_; rintro e w' ⟨rfl, rfl⟩)
 go_ret
 exact ⟨rfl, (Below.refl _ _).alloc (Nat.le_refl _) _⟩
noncomputable def okAt (rs : List RuleV) (k : Int) : Bool := decide (0 ≤ k ∧ k < (rs.length : Int)) && descrB (kindI rs) rs
theorem okAt_yes {rs : List RuleV} {k : Int} (h : okAt rs k = true) : (0 ≤ k ∧ k < (rs.length : Int)) ∧ (1 ≤ rs.length ∧ rs.length ≤ 24) ∧ allV (kindI rs) rs := by
 unfold okAt at h
 rw [Bool.and_eq_true] at h
 exact ⟨of_decide_eq_true h.1, (descrB_iff.1 h.2).1, (descrB_iff.1 h.2).2⟩
theorem l7_spec (a : Option Addr) (rs : List RuleV) (cap : Nat) (k : Int) (w : World) (hl : rs.length ≤ 1048576) (hs : ∀ r ∈ rs, Short r) (hp : ∀ r ∈ rs, Spelt r) (h : RdC a rs w) :
  Calls Tryz.prog 52 #[.agg #[.slice a rs.length cap], .int .i64 k] w fun e w' => e = .returned (.bool (okAt rs k)) ∧ Below w.heap.size w w' := by
 obtain ⟨w0, hw0⟩ : ∃ w0, w0 = w.alloc (.cells #[.slice a rs.length cap] 26) := ⟨_, rfl⟩
 have hB0 := zb1 hw0
 have hX0 := zk1 hw0
 have bx := (hX0 0 _ rfl).1
 have HB := kq hB0
 have HC := kq (h.below hB0)
 have HS := kq hs
 have HP := kq hp
 have hW := kq hw0
 clear h hB0 hX0 hs hp hw0
 by_cases hk : 0 ≤ k ∧ k ≤ (rs.length : Int) - 1
 ·have hd := decide_eq_true hk
  have hr : Hid (okAt rs k = descrB (kindI rs) rs) := by
   show _ = _
   unfold okAt
   rw [decide_eq_true (by omega), Bool.true_and]
  go_enter Tryz.func52, Tryz.ntmps52
  go_wp2_with fail
  refine (in_any _ _ _ true _ hd).mono ?_
  rintro e w1 ⟨rfl, rfl⟩
  rw [← hW.out]
  clear hW
  go_wp2_with fail
  refine (validd_spec a rs cap _ hl HS.out HP.out HC.out).mono ?_
  rintro e w2 ⟨rfl, hb2⟩
  rw [← hr.out]
  obtain ⟨b, hb⟩ : ∃ b, b = okAt rs k := ⟨_, rfl⟩
  rw [← hb]
  have HBB := kq hb
  clear hb
  have HB2 := kq (HB.out.trans (hb2.mono HB.out.size))
  clear hb2 hr
  go_wp2
  go_ret
  exact ⟨ret_bool HBB.out, HB2.out⟩
 ·have hd := decide_eq_false hk
  have hr : Hid (okAt rs k = false) := by
   show _ = _
   unfold okAt
   rw [decide_eq_false (by omega), Bool.false_and]
  go_enter Tryz.func52, Tryz.ntmps52
  go_wp2_with fail
  refine (in_any _ _ _ false _ hd).mono ?_
  rintro e w1 ⟨rfl, rfl⟩
  go_wp2
  rw [← hW.out]
  go_ret
  exact ⟨ret_bool hr.out.symm, HB.out⟩
theorem isdescr_impl (a : Option Addr) (rs : List RuleV) (cap : Nat) (k : Int) (w : World) (hl : rs.length ≤ 1048576) (hs : ∀ r ∈ rs, Short r) (hp : ∀ r ∈ rs, Spelt r) (h : RdC a rs w) :
  Calls Tryz.prog 55 #[.agg #[.slice a rs.length cap], .int .i64 k] w fun e w' => e = .returned (.bool (okAt rs k)) ∧ Below w.heap.size w w' := by
 obtain ⟨w0, hw0⟩ : ∃ w0, w0 = w.alloc (.cells #[.slice a rs.length cap] 26) := ⟨_, rfl⟩
 have hB0 := zb1 hw0
 have hX0 := zk1 hw0
 have bx := (hX0 0 _ rfl).1
 have HX := kq hX0
 have HB0 := kq hB0
 have HC := kq (h.below hB0)
 have hW := kq hw0
 have HS := kq hs
 have HP := kq hp
 clear h hs hp hB0 hX0 hw0
 obtain ⟨b, hb⟩ : ∃ b, b = descrB (kindI rs) rs := ⟨_, rfl⟩
 have HBB := kq hb
 clear hb
 go_enter Tryz.func55, Tryz.ntmps55
 go_wp2_with fail
 rw [← hW.out]
 clear hW
 refine (validd_impl a rs cap _ hl HS.out HP.out HC.out).mono ?_
 rintro e w1 ⟨rfl, hb1⟩
 rw [← HBB.out]
 have HB := kq (HB0.out.trans (hb1.mono HB0.out.size))
 replace HX := kq (HX.out.below hb1)
 clear hb1 bx
 have bx := (HX.out 0 _ rfl).1
 cases b with
 | false =>
  have hr : Hid (okAt rs k = false) := by show _ = _; unfold okAt; rw [← HBB.out, Bool.and_false]
  go_wp2
  go_ret
  exact ⟨ret_bool hr.out.symm, HB.out⟩
 | true =>
  have hr : Hid (okAt rs k = decide (0 ≤ k ∧ k < (rs.length : Int))) := by show _ = _; unfold okAt; rw [← HBB.out, Bool.and_true]
  obtain ⟨q, hq⟩ : ∃ q, q = decide (0 ≤ k ∧ k < (rs.length : Int)) := ⟨_, rfl⟩
  rw [← hq] at hr
  go_wp2_with fail
  refine (hasr_impl a rs.length cap k _ (by omega) q hq.symm).mono ?_
  rintro e w2 ⟨rfl, hb2⟩
  replace HB := kq (HB.out.trans (hb2.mono HB.out.size))
  clear hb2 hq
  go_wp2
  go_ret
  exact ⟨ret_bool hr.out.symm, HB.out⟩
end Go.Proofs.YtefkhknfjohnaaaGreatDoor
