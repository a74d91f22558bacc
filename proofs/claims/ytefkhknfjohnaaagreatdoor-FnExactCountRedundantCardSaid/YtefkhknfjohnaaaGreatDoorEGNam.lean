/- Texts: -/
import Derived.Test.YtefkhknfjohnaaaGreatDoorEGBase
import Derived.Laws.RangeAny
set_option maxRecDepth 100000
set_option maxHeartbeats 1000000
namespace Go.Proofs.YtefkhknfjohnaaaGreatDoor
open Go
def nameAt (x : UInt8) (i : Nat) : Prop:=(97 ≤ x.toNat ∧ x.toNat ≤ 122) ∨ ((48 ≤ x.toNat ∧ x.toNat ≤ 57) ∧ i ≠ 0)
instance (x : UInt8) (i : Nat) : Decidable (nameAt x i):=by unfold nameAt; infer_instance
def nameTo (s : ByteArray) (k : Nat) : Prop:=∀ i (h : i < s.size),i < k → nameAt s[i] i
open Classical in
noncomputable def nameB (s : ByteArray) : Bool:=decide (nameTo s s.size ∧ 1 ≤ s.size ∧ s.size ≤ 12)
theorem nameTo.next {s : ByteArray} {k : Nat} (h : nameTo s k) (hk : k < s.size) (hn : nameAt s[k] k) : nameTo s (k + 1):=fun i hi hik => by
 by_cases e : i = k
 ·subst e; exact hn
 ·exact h i hi (by omega)
open Classical in
theorem nameB_bad {s : ByteArray} {k : Nat} (hk : k < s.size) (hn : ¬ nameAt s[k] k) : nameB s = false:=by
 unfold nameB
 exact decide_eq_false fun h => hn (h.1 k hk hk)
open Classical in
theorem nameB_end {s : ByteArray} (h : nameTo s s.size) : nameB s = decide (1 ≤ s.size ∧ s.size ≤ 12):=by
 unfold nameB
 simp [h]
open Classical in
theorem nameB_size {s : ByteArray} (h : ¬ (1 ≤ s.size ∧ s.size ≤ 12)) : nameB s = false:=by
 unfold nameB
 exact decide_eq_false fun h' => h h'.2
end Go.Proofs.YtefkhknfjohnaaaGreatDoor
namespace Go.Proofs.YtefkhknfjohnaaaGreatDoor
open Go Go.RowKit
def hasS (ss : List ByteArray) (x : ByteArray) : Bool:=ss.any fun y => decide (y = x)
theorem hasS_true {ss : List ByteArray} {x : ByteArray} (h : x ∈ ss) : hasS ss x = true:=by
 unfold hasS
 rw [List.any_eq_true]
 exact ⟨x,h,by simp⟩
theorem hasS_false {ss : List ByteArray} {x : ByteArray} (h : ¬ x ∈ ss) : hasS ss x = false:=by
 unfold hasS
 rw [List.any_eq_false]
 intro y hy e
 exact h ((of_decide_eq_true e) ▸ hy)
theorem has_spec (a : Option Addr) (ss : List ByteArray) (cap : Nat) (x : ByteArray) (w : World) (hl : ss.length ≤ 1073741824) (h : RdS a ss w) :
  Calls Tryz.prog 237 #[.slice a ss.length cap,.string x] w fun e w' => e = .returned (.bool (hasS ss x)) ∧ w = w':=by
 have H:=kq h
 clear h
 go_enter Tryz.func237,Tryz.ntmps237
 go_wp2
 go_loop [5] (fun i => ∃ k : Nat,k ≤ ss.length ∧ i = .int .i64 k ∧ Hid (∀ j (h : j < ss.length),j < k → ss[j] ≠ x)) (fun i => ss.length - (intOf i).toNat)
 case atStart => exact ⟨0,Nat.zero_le _,rfl,fun j _ hj => by omega⟩
 case round =>
  obtain ⟨k,hk,rfl,hn⟩:=hrel
  have k0 : (0 : Int) ≤ (k : Int):=by omega
  by_cases hlt : k < ss.length
  ·have k1 : (k : Int) < (ss.length : Int):=by omega
   obtain ⟨b,off,rfl,hc⟩:=H.out k hlt
   by_cases he : ss[k] = x
   ·have hr : Hid (x ∈ ss):=he ▸ List.getElem_mem hlt
    have g1:=str_eq he
    generalize ss[k] = y at hc g1
    clear he
    go_wp2
    go_ret
    exact ⟨ret_bool (hasS_true hr.out).symm,rfl⟩
   ·have g1:=str_ne he
    have hn2 : Hid (∀ j (h : j < ss.length),j < k + 1 → ss[j] ≠ x):=fun j hj hjk => by
     by_cases e : j = k
     ·subst e; exact he
     ·exact hn.out j hj (by omega)
    generalize ss[k] = y at hc g1
    clear he
    go_wp2
    go_round
    case rel => exact ⟨k + 1,by omega,by go_num,hn2⟩
    case measure => simp [intOf]; omega
  ·have k1 : ¬ (k : Int) < (ss.length : Int):=by omega
   have hr : Hid (¬ x ∈ ss):=fun hm => by
    obtain ⟨j,hj,e⟩:=List.getElem_of_mem hm
    exact hn.out j hj (by omega) e
   go_wp2
   go_ret
   exact ⟨ret_bool (hasS_false hr.out).symm,rfl⟩
theorem in_spec (x : Int) (b : Bool) (w : World) (hb : decide (1 ≤ x ∧ x ≤ 12) = b) :
  Calls Tryz.prog 87 #[.int .i64 x,.int .i64 1,.int .i64 12] w fun e w' => e = .returned (.bool b) ∧ w = w':=by
 subst hb
 by_cases ha : 1 ≤ x
 ·by_cases hc : x ≤ 12
  ·go_enter Tryz.func87,Tryz.ntmps87
   go_wp2
   go_ret
   exact ⟨ret_bool (decide_eq_true ⟨ha,hc⟩).symm,rfl⟩
  ·have hd : decide (x ≤ 12) = false:=by simp [hc]
   go_enter Tryz.func87,Tryz.ntmps87
   go_wp2
   go_ret
   exact ⟨rfl,rfl⟩
 ·have hd : decide (1 ≤ x) = false:=by simp [ha]
  go_enter Tryz.func87,Tryz.ntmps87
  go_wp2
  go_ret
  exact ⟨rfl,rfl⟩
theorem in_impl (x : Int) (b : Bool) (w : World) (hb : decide (1 ≤ x ∧ x ≤ 12) = b) :
  Calls Tryz.prog 123 #[.int .i64 x,.int .i64 1,.int .i64 12] w fun e w' => e = .returned (.bool b) ∧ w = w':=by
 subst hb
 by_cases ha : 1 ≤ x
 ·by_cases hc : x ≤ 12
  ·go_enter Tryz.func123,Tryz.ntmps123
   go_wp2
   go_ret
   exact ⟨ret_bool (decide_eq_true ⟨ha,hc⟩).symm,rfl⟩
  ·have hd : decide (x ≤ 12) = false:=by simp [hc]
   go_enter Tryz.func123,Tryz.ntmps123
   go_wp2
   go_ret
   exact ⟨rfl,rfl⟩
 ·have hd : decide (1 ≤ x) = false:=by simp [ha]
  go_enter Tryz.func123,Tryz.ntmps123
  go_wp2
  go_ret
  exact ⟨rfl,rfl⟩
theorem let_impl (x : Int) (b : Bool) (w : World) (hb : decide (97 ≤ x ∧ x ≤ 122) = b) :
  Calls Tryz.prog 224 #[.int .i32 x] w fun e w' => e = .returned (.bool b) ∧ w = w':=by
 subst hb
 by_cases ha : 97 ≤ x
 ·by_cases hc : x ≤ 122
  ·go_enter Tryz.func224,Tryz.ntmps224
   go_wp2
   go_ret
   exact ⟨ret_bool (decide_eq_true ⟨ha,hc⟩).symm,rfl⟩
  ·have hd : decide (x ≤ 122) = false:=by simp [hc]
   go_enter Tryz.func224,Tryz.ntmps224
   go_wp2
   go_ret
   exact ⟨rfl,rfl⟩
 ·have hd : decide (97 ≤ x) = false:=by simp [ha]
  go_enter Tryz.func224,Tryz.ntmps224
  go_wp2
  go_ret
  exact ⟨rfl,rfl⟩
theorem dig_impl (x : Int) (b : Bool) (w : World) (hb : decide (48 ≤ x ∧ x ≤ 57) = b) :
  Calls Tryz.prog 147 #[.int .i32 x] w fun e w' => e = .returned (.bool b) ∧ w = w':=by
 subst hb
 by_cases ha : 48 ≤ x
 ·by_cases hc : x ≤ 57
  ·go_enter Tryz.func147,Tryz.ntmps147
   go_wp2
   go_ret
   exact ⟨ret_bool (decide_eq_true ⟨ha,hc⟩).symm,rfl⟩
  ·have hd : decide (x ≤ 57) = false:=by simp [hc]
   go_enter Tryz.func147,Tryz.ntmps147
   go_wp2
   go_ret
   exact ⟨rfl,rfl⟩
 ·have hd : decide (48 ≤ x) = false:=by simp [ha]
  go_enter Tryz.func147,Tryz.ntmps147
  go_wp2
  go_ret
  exact ⟨rfl,rfl⟩
theorem not_name {x k : Nat} {c : UInt8} (hc : c.toNat = x) (h1 : ¬ (97 ≤ x ∧ x ≤ 122)) (h2 : ¬ (48 ≤ x ∧ x ≤ 57) ∨ k = 0) : ¬ nameAt c k:=fun h => by
 unfold nameAt at h
 omega
theorem is_name {x k : Nat} {c : UInt8} (hc : c.toNat = x) (h : (97 ≤ x ∧ x ≤ 122) ∨ ((48 ≤ x ∧ x ≤ 57) ∧ k ≠ 0)) : nameAt c k:=by
 unfold nameAt
 omega
theorem name_spec (s : ByteArray) (w : World) (hs : s.size ≤ 1073741824) :
  Calls Tryz.prog 189 #[.string s] w fun e w' => e = .returned (.bool (nameB s)) ∧ w = w':=by
 go_enter Tryz.func189,Tryz.ntmps189
 go_wp2
 go_loop [3,4,5] (fun i _ _ => ∃ k : Nat,k ≤ s.size ∧ i = .int .i64 k ∧ Hid (nameTo s k)) (fun i _ _ => s.size - (intOf i).toNat)
 case atStart => exact ⟨0,Nat.zero_le _,rfl,fun i _ h => by omega⟩
 case round =>
  obtain ⟨k,hk,rfl,hn⟩:=hrel
  have k0 : (0 : Int) ≤ (k : Int):=by omega
  by_cases hlt : k < s.size
  ·have k1 : (k : Int) < (s.size : Int):=by omega
   have hgood:=fun h => kq (hn.out.next hlt (is_name (k:=k) rfl h))
   have hbad:=fun h1 h2 => kq (nameB_bad hlt (not_name (k:=k) rfl h1 h2))
   generalize hx : s[k].toNat = x at hgood hbad
   have hcase : x < 48 ∨ (48 ≤ x ∧ x ≤ 57 ∧ k = 0) ∨ (48 ≤ x ∧ x ≤ 57 ∧ k ≠ 0) ∨ (58 ≤ x ∧ x < 97) ∨ (97 ≤ x ∧ x ≤ 122) ∨ 122 < x:=by omega
   rcases hcase with h | ⟨h,h',h0⟩ | ⟨h,h',h0⟩ | ⟨h,h'⟩ | ⟨h,h'⟩ | h
   ·have hr:=hbad (by omega) (.inl (by omega))
    clear hgood hbad
    have p1 : decide ((97 : Int) ≤ (x : Int)) = false:=by simp; omega
    have p2 : decide ((48 : Int) ≤ (x : Int)) = false:=by simp; omega
    go_wp2
    go_ret
    exact ⟨ret_bool hr.out.symm,rfl⟩
   ·have hr:=hbad (by omega) (.inr h0)
    clear hgood hbad
    subst h0
    have p1 : decide ((97 : Int) ≤ (x : Int)) = false:=by simp; omega
    have p2 : (48 : Int) ≤ (x : Int):=by omega
    have p3 : (x : Int) ≤ 57:=by omega
    go_wp2
    go_ret
    exact ⟨ret_bool hr.out.symm,rfl⟩
   ·have hr:=hgood (.inr ⟨⟨h,h'⟩,h0⟩)
    clear hgood hbad
    have p1 : decide ((97 : Int) ≤ (x : Int)) = false:=by simp; omega
    have p2 : (48 : Int) ≤ (x : Int):=by omega
    have p3 : (x : Int) ≤ 57:=by omega
    have p4 : ((k : Int) == 0) = false:=by rw [beq_eq_false_iff_ne]; omega
    go_wp2
    go_round
    case rel => exact ⟨k + 1,by omega,by go_num,hr⟩
    case measure => simp [intOf]; omega
   ·have hr:=hbad (by omega) (.inl (by omega))
    clear hgood hbad
    have p1 : decide ((97 : Int) ≤ (x : Int)) = false:=by simp; omega
    have p2 : (48 : Int) ≤ (x : Int):=by omega
    have p3 : decide ((x : Int) ≤ 57) = false:=by simp; omega
    go_wp2
    go_ret
    exact ⟨ret_bool hr.out.symm,rfl⟩
   ·have hr:=hgood (.inl ⟨h,h'⟩)
    clear hgood hbad
    have p1 : (97 : Int) ≤ (x : Int):=by omega
    have p2 : (48 : Int) ≤ (x : Int):=by omega
    have p3 : decide ((x : Int) ≤ 57) = false:=by simp; omega
    have p4 : (x : Int) ≤ 122:=by omega
    go_wp2
    go_round
    case rel => exact ⟨k + 1,by omega,by go_num,hr⟩
    case measure => simp [intOf]; omega
   ·have hr:=hbad (by omega) (.inl (by omega))
    clear hgood hbad
    have p1 : (97 : Int) ≤ (x : Int):=by omega
    have p2 : (48 : Int) ≤ (x : Int):=by omega
    have p3 : decide ((x : Int) ≤ 57) = false:=by simp; omega
    have p4 : decide ((x : Int) ≤ 122) = false:=by simp; omega
    go_wp2
    go_ret
    exact ⟨ret_bool hr.out.symm,rfl⟩
  ·have k1 : ¬ (k : Int) < (s.size : Int):=by omega
   obtain rfl : k = s.size:=by omega
   have hr:=kq (nameB_end hn.out)
   go_wp2_with fail
   refine (in_spec (s.size : Int) (nameB s) _ (by rw [hr.out]; simp only [decide_eq_decide]; omega)).mono ?_
   rintro e w1 ⟨rfl,rfl⟩
   go_wp2
   go_ret
   exact ⟨rfl,rfl⟩
def NameRel (s : ByteArray) (w W : World) : Prop:=∃ pos : Nat,pos ≤ s.size ∧ W = w.iter s pos ∧ nameTo s pos
theorem below_iter (w : World) (s : ByteArray) (pos : Nat) : Below w.heap.size w (w.iter s pos):=(Below.refl _ _).alloc (Nat.le_refl _) _
theorem iter_at (w : World) (s : ByteArray) (pos : Nat) : (w.iter s pos).iterPos w.heap.size = pos:=by simp [World.iterPos,World.iter_heap]
theorem name_impl (s : ByteArray) (w : World) (hs : s.size ≤ 1073741824) :
  Calls Tryz.prog 192 #[.string s] w fun e w' => e = .returned (.bool (nameB s)) ∧ Below w.heap.size w w':=by
 by_cases hsz : 1 ≤ s.size ∧ s.size ≤ 12
 ·go_enter Tryz.func192,Tryz.ntmps192
  go_wp2_with fail
  refine (in_impl (s.size : Int) true _ (by simp; omega)).mono ?_
  rintro e w1 ⟨rfl,rfl⟩
  go_wp2
  go_loopw [3,4] (fun _ _ W => NameRel s w W) (fun _ _ W => s.size - W.iterPos w.heap.size)
  case atStart => exact ⟨0,Nat.zero_le _,rfl,fun i _ h => by omega⟩
  case round =>
   obtain ⟨pos,hp,rfl,hn⟩:=hrel
   have HN:=kq hn
   clear hn
   by_cases hlt : pos < s.size
   ·have hgood:=fun h => kq (HN.out.next hlt (is_name (k:=pos) rfl h))
    have hbad:=fun h1 h2 => kq (nameB_bad hlt (not_name (k:=pos) rfl h1 h2))
    by_cases ha : s[pos].toNat < 128
    ·have hnx:=fun ty => run_next_ascii (P:=Tryz.prog) w s pos ty hlt ha
     generalize hx : s[pos].toNat = x at hgood hbad hnx ha
     by_cases hl : 97 ≤ x ∧ x ≤ 122
     ·have hr:=hgood (.inl hl)
      clear hgood hbad
      go_wp2_with (go_at_call 224; refine (let_impl (x : Int) true _ (by simp; omega)).mono ?_; rintro e w1 ⟨rfl,rfl⟩)
      go_wp2
      go_roundw
      case rel => exact ⟨pos + 1,by omega,rfl,hr.out⟩
      case measure => rw [iter_at,iter_at]; omega
     ·by_cases h0 : pos = 0
      ·have hr:=hbad hl (.inr h0)
       clear hgood hbad
       subst h0
       go_wp2_with (go_at_call 224; refine (let_impl (x : Int) false _ (by simp; omega)).mono ?_; rintro e w1 ⟨rfl,rfl⟩)
       go_wp2
       go_ret
       exact ⟨ret_bool hr.out.symm,below_iter _ _ _⟩
      ·have g0 : ((pos : Int) == 0) = false:=by rw [beq_eq_false_iff_ne]; omega
       by_cases hd : 48 ≤ x ∧ x ≤ 57
       ·have hr:=hgood (.inr ⟨hd,h0⟩)
        clear hgood hbad
        go_wp2_with (first | (go_at_call 224; refine (let_impl (x : Int) false _ (by simp; omega)).mono ?_; rintro e w1 ⟨rfl,rfl⟩) | (go_at_call 147; refine (dig_impl (x : Int) true _ (by simp; omega)).mono ?_; rintro e w1 ⟨rfl,rfl⟩))
        go_wp2
        go_roundw
        case rel => exact ⟨pos + 1,by omega,rfl,hr.out⟩
        case measure => rw [iter_at,iter_at]; omega
       ·have hr:=hbad hl (.inl hd)
        clear hgood hbad
        go_wp2_with (first | (go_at_call 224; refine (let_impl (x : Int) false _ (by simp; omega)).mono ?_; rintro e w1 ⟨rfl,rfl⟩) | (go_at_call 147; refine (dig_impl (x : Int) false _ (by simp; omega)).mono ?_; rintro e w1 ⟨rfl,rfl⟩))
        go_wp2
        go_ret
        exact ⟨ret_bool hr.out.symm,below_iter _ _ _⟩
    ·have hr:=hbad (by omega) (.inl (by omega))
     have hnx:=fun ty => run_next_any (P:=Tryz.prog) w s pos ty hlt
     have hhi:=(decode_high s pos hlt (by omega)).1
     clear hgood hbad
     generalize (Utf8.decode s pos).1 = x at hnx hhi
     generalize (Utf8.decode s pos).2 = y at hnx
     by_cases h0 : pos = 0
     ·subst h0
      go_wp2_with (go_at_call 224; refine (let_impl (x : Int) false _ (by simp; omega)).mono ?_; rintro e w1 ⟨rfl,rfl⟩)
      go_wp2
      go_ret
      exact ⟨ret_bool hr.out.symm,below_iter _ _ _⟩
     ·have g0 : ((pos : Int) == 0) = false:=by rw [beq_eq_false_iff_ne]; omega
      go_wp2_with (first | (go_at_call 224; refine (let_impl (x : Int) false _ (by simp; omega)).mono ?_; rintro e w1 ⟨rfl,rfl⟩) | (go_at_call 147; refine (dig_impl (x : Int) false _ (by simp; omega)).mono ?_; rintro e w1 ⟨rfl,rfl⟩))
      go_wp2
      go_ret
      exact ⟨ret_bool hr.out.symm,below_iter _ _ _⟩
   ·have hnx:=fun ty => run_next_end (P:=Tryz.prog) w s pos ty hlt
    obtain rfl : pos = s.size:=by omega
    have hr : Hid (nameB s = true):=by
     show _ = _
     rw [nameB_end HN.out]
     exact decide_eq_true hsz
    go_wp2
    go_ret
    exact ⟨ret_bool hr.out.symm,below_iter _ _ _⟩
 ·have hr:=kq (nameB_size hsz)
  go_enter Tryz.func192,Tryz.ntmps192
  go_wp2_with fail
  refine (in_impl (s.size : Int) false _ (by simp; omega)).mono ?_
  rintro e w1 ⟨rfl,rfl⟩
  go_wp2
  go_ret
  exact ⟨ret_bool hr.out.symm,Below.refl _ _⟩
theorem root_spec (a : Option Addr) (rs : List RuleV) (cap : Nat) (w : World) (hl : rs.length ≤ 1073741824) (_h : RdR a rs w) :
  Calls Tryz.prog 78 #[.agg #[.slice a rs.length cap]] w fun e w' => e = .returned (.int .i64 ((rs.length : Int) - 1)) ∧ Below w.heap.size w w':=by
 go_enter Tryz.func78,Tryz.ntmps78
 go_wp2
 go_ret
 exact ⟨rfl,(Below.refl _ _).alloc (Nat.le_refl _) _⟩
theorem in_any (x lo hi : Int) (b : Bool) (w : World) (hb : decide (lo ≤ x ∧ x ≤ hi) = b) :
  Calls Tryz.prog 87 #[.int .i64 x,.int .i64 lo,.int .i64 hi] w fun e w' => e = .returned (.bool b) ∧ w = w':=by
 subst hb
 by_cases ha : lo ≤ x
 ·by_cases hc : x ≤ hi
  ·go_enter Tryz.func87,Tryz.ntmps87
   go_wp2
   go_ret
   exact ⟨ret_bool (decide_eq_true ⟨ha,hc⟩).symm,rfl⟩
  ·have hd : decide (x ≤ hi) = false:=by simp [hc]
   go_enter Tryz.func87,Tryz.ntmps87
   go_wp2
   go_ret
   first | exact ⟨rfl,rfl⟩ | exact ⟨ret_bool (decide_eq_false (by omega)).symm,rfl⟩ | exact ⟨ret_bool (by simp; omega),rfl⟩
 ·have hd : decide (lo ≤ x) = false:=by simp [ha]
  go_enter Tryz.func87,Tryz.ntmps87
  go_wp2
  go_ret
  first | exact ⟨rfl,rfl⟩ | exact ⟨ret_bool (decide_eq_false (by omega)).symm,rfl⟩ | exact ⟨ret_bool (by simp; omega),rfl⟩
def pow256 (n : Int) : Int:=if n = 1 then 256 else if n = 2 then 65536 else if n = 3 then 16777216 else 4294967296
theorem pow256_bounds (n : Int) : 256 ≤ pow256 n ∧ pow256 n ≤ 4294967296:=by
 unfold pow256
 by_cases h1 : n = 1
 ·rw [if_pos h1]; omega
 ·rw [if_neg h1]
  by_cases h2 : n = 2
  ·rw [if_pos h2]; omega
  ·rw [if_neg h2]
   by_cases h3 : n = 3
   ·rw [if_pos h3]; omega
   ·rw [if_neg h3]; omega
theorem power_spec (n : Int) (w : World) (h1 : 1 ≤ n) (h2 : n ≤ 4) :
  Calls Tryz.prog 112 #[.int .i64 n] w fun e w' => e = .returned (.int .i64 (pow256 n)) ∧ w = w':=by
 rcases (by omega : n = 1 ∨ n = 2 ∨ n = 3 ∨ n = 4) with rfl | rfl | rfl | rfl <;>
 ·go_enter Tryz.func112,Tryz.ntmps112
  go_wp2
  go_ret
  exact ⟨rfl,rfl⟩
def limitAt (rs : List RuleV) (k : Int) : Int :=
 if h : 0 ≤ k ∧ k < rs.length then (let r:=rs[k.toNat]'(by omega); if r.kind = 1 ∧ 1 ≤ r.size ∧ r.size ≤ 4 then pow256 r.size - 1 else -1) else -1
theorem limitAt_out {rs : List RuleV} {k : Int} (h : ¬ (0 ≤ k ∧ k < rs.length)) : limitAt rs k = -1:=by unfold limitAt; rw [dif_neg h]
theorem limitAt_in {rs : List RuleV} {k : Nat} (h : k < rs.length) : limitAt rs (k : Int) = if rs[k].kind = 1 ∧ 1 ≤ rs[k].size ∧ rs[k].size ≤ 4 then pow256 rs[k].size - 1 else -1:=by
 unfold limitAt
 rw [dif_pos (by omega)]
 simp only [Int.toNat_natCast]
theorem limit_spec (a : Option Addr) (rs : List RuleV) (cap : Nat) (k : Int) (w : World) (hl : rs.length ≤ 1073741824) (h : RdR a rs w) :
  Calls Tryz.prog 221 #[.agg #[.slice a rs.length cap],.int .i64 k] w fun e w' => e = .returned (.int .i64 (limitAt rs k)) ∧ Below w.heap.size w w':=by
 have hB : Below w.heap.size w (w.alloc (.cells #[.slice a rs.length cap] 26)):=(Below.refl _ _).alloc (Nat.le_refl _) _
 have H:=kq (h.below hB)
 have HB:=kq hB
 clear h hB
 by_cases hk : 0 ≤ k ∧ k < rs.length
 ·obtain ⟨n,rfl⟩ : ∃ n : Nat,k = (n : Int):=⟨k.toNat,by omega⟩
  have hlt : n < rs.length:=by omega
  have k0 : (0 : Int) ≤ (n : Int):=by omega
  have k1 : (n : Int) < (rs.length : Int):=by omega
  have hr:=kq (limitAt_in hlt)
  obtain ⟨b,off,a4,c4,a5,c5,a6,c6,a7,c7,rfl,⟨-,d1,d2,-⟩,-⟩:=H.out.at n hlt
  generalize rs[n].kind = kd at d1 hr
  generalize rs[n].size = sz at d2 hr
  by_cases hkd : kd = 1
  ·subst hkd
   by_cases hsz : 1 ≤ sz ∧ sz ≤ 4
   ·have hp:=pow256_bounds sz
    have hres : Hid (limitAt rs (n : Int) = pow256 sz - 1):=by
     show _ = _
     rw [hr.out,if_pos ⟨rfl,hsz⟩]
    clear hr
    go_enter Tryz.func221,Tryz.ntmps221
    go_wp2_with (first | (go_at_call 87; refine (in_any _ _ _ true _ (by simp; omega)).mono ?_; rintro e w1 ⟨rfl,rfl⟩) | (go_at_call 112; refine (power_spec _ _ (by omega) (by omega)).mono ?_; rintro e w1 ⟨rfl,rfl⟩))
    go_ret
    exact ⟨ret_int hres.out.symm,HB.out⟩
   ·go_enter Tryz.func221,Tryz.ntmps221
    go_wp2_with fail
    refine (in_any _ _ _ true _ (by simp; omega)).mono ?_
    rintro e w1 ⟨rfl,rfl⟩
    go_wp2_with fail
    refine (in_any _ _ _ false _ (by simp; omega)).mono ?_
    rintro e w1 ⟨rfl,rfl⟩
    go_wp2
    go_ret
    exact ⟨ret_int (by rw [hr.out,if_neg (fun h => hsz h.2)]),HB.out⟩
  ·have g1 : (kd != 1) = true:=by simpa using hkd
   go_enter Tryz.func221,Tryz.ntmps221
   go_wp2_with fail
   refine (in_any _ _ _ true _ (by simp; omega)).mono ?_
   rintro e w1 ⟨rfl,rfl⟩
   go_wp2
   go_ret
   exact ⟨ret_int (by rw [hr.out,if_neg (fun h => hkd h.1)]),HB.out⟩
 ·have hr:=kq (limitAt_out hk)
  go_enter Tryz.func221,Tryz.ntmps221
  go_wp2_with fail
  refine (in_any _ _ _ false _ (by simp; omega)).mono ?_
  rintro e w1 ⟨rfl,rfl⟩
  go_wp2
  go_ret
  exact ⟨ret_int hr.out.symm,HB.out⟩
def namesTo (ss : List ByteArray) (k : Nat) : Prop:=∀ i (h : i < ss.length),i < k → nameB ss[i] = true ∧ hasS (ss.take i) ss[i] = false
open Classical in
noncomputable def namesB (ss : List ByteArray) : Bool:=decide (namesTo ss ss.length ∧ 1 ≤ ss.length ∧ ss.length ≤ 8)
theorem namesTo.next {ss : List ByteArray} {k : Nat} (h : namesTo ss k) (hk : k < ss.length) (h1 : nameB ss[k] = true) (h2 : hasS (ss.take k) ss[k] = false) : namesTo ss (k + 1):=fun i hi hik => by
 by_cases e : i = k
 ·subst e; exact ⟨h1,h2⟩
 ·exact h i hi (by omega)
open Classical in
theorem namesB_bad {ss : List ByteArray} {k : Nat} (hk : k < ss.length) (h : ¬ (nameB ss[k] = true ∧ hasS (ss.take k) ss[k] = false)) : namesB ss = false:=by
 unfold namesB
 exact decide_eq_false fun h' => h (h'.1 k hk hk)
open Classical in
theorem namesB_end {ss : List ByteArray} (h : namesTo ss ss.length) : namesB ss = decide (1 ≤ ss.length ∧ ss.length ≤ 8):=by
 unfold namesB
 simp [h]
theorem RdF.take {α : Type} {f : α → Value} {a : Option Addr} {xs : List α} {w : World} (h : RdF f a xs w) (n : Nat) : RdF f a (xs.take n) w:=fun j hj => by
 have hj2 : j < xs.length:=by simp at hj; omega
 obtain ⟨b,off,ha,hc⟩:=h j hj2
 exact ⟨b,off,ha,by rw [List.getElem_take]; exact hc⟩
theorem has_take (a : Option Addr) (ss : List ByteArray) (k cap : Nat) (x : ByteArray) (w : World) (hl : ss.length ≤ 1073741824) (hk : k ≤ ss.length) (h : RdS a ss w) :
  Calls Tryz.prog 237 #[.slice a k cap,.string x] w fun e w' => e = .returned (.bool (hasS (ss.take k) x)) ∧ w' = w:=by
 have e : (ss.take k).length = k:=by simp; omega
 have h2:=has_spec a (ss.take k) cap x w (by omega) (h.take k)
 rw [e] at h2
 exact h2.mono fun _ _ ⟨h3,h4⟩ => ⟨h3,h4.symm⟩
theorem names_spec (a : Option Addr) (ss : List ByteArray) (cap : Nat) (w : World) (hl : ss.length ≤ 1048576) (hcap : ss.length ≤ cap) (hs : ∀ s ∈ ss,s.size ≤ 1048576) (h : RdS a ss w) :
  Calls Tryz.prog 222 #[.slice a ss.length cap] w fun e w' => e = .returned (.bool (namesB ss)) ∧ ∃ n,w' = w.drewN n:=by
 have H:=kq h
 have HS:=kq hs
 clear h hs
 go_enter Tryz.func222,Tryz.ntmps222
 go_wp2
 go_loopw [3] (fun i W => ∃ k n : Nat,k ≤ ss.length ∧ i = .int .i64 k ∧ Hid (W = w.drewN n) ∧ Hid (namesTo ss k)) (fun i _ => ss.length - (intOf i).toNat)
 case atStart => exact ⟨0,0,Nat.zero_le _,rfl,rfl,fun i _ h => by omega⟩
 case round =>
  obtain ⟨k,n,hk,rfl,hw,hn⟩:=hrel
  have Hr : Hid (RdS a ss wr):=by
   show RdF _ _ _ _
   rw [hw.out]; exact H.out
  have HE : ∀ m,Hid (wr.drewN m = w.drewN (n + m)):=fun m => by
   show _ = _
   rw [hw.out,World.drewN_drewN]
  have k0 : (0 : Int) ≤ (k : Int):=by omega
  by_cases hlt : k < ss.length
  ·have k1 : (k : Int) < (ss.length : Int):=by omega
   have k2 : (k : Int) ≤ (cap : Int):=by omega
   have hsz:=HS.out _ (List.getElem_mem hlt)
   have HQ1 : Hid (∀ m,Calls Tryz.prog 189 #[.string ss[k]] (wr.drewN m) fun e w' => e = .returned (.bool (nameB ss[k])) ∧ w' = wr.drewN m):=fun m => (name_spec ss[k] (wr.drewN m) (by omega)).mono fun _ _ ⟨h3,h4⟩ => ⟨h3,h4.symm⟩
   have HQ2 : Hid (∀ m,Calls Tryz.prog 237 #[.slice a k cap,.string ss[k]] (wr.drewN m) fun e w' => e = .returned (.bool (hasS (ss.take k) ss[k])) ∧ w' = wr.drewN m):=fun m => has_take a ss k cap ss[k] (wr.drewN m) (by omega) hk Hr.out
   have hbad:=fun h => kq (namesB_bad hlt h)
   have hgood:=fun h1 h2 => kq (hn.out.next hlt h1 h2)
   obtain ⟨b,off,rfl,hc⟩:=Hr.out k hlt
   generalize nameB ss[k] = b1 at HQ1 hbad hgood
   generalize hasS (ss.take k) ss[k] = b2 at HQ2 hbad hgood
   generalize ss[k] = x at HQ1 HQ2 hc hsz
   cases b1 with
   | false =>
    have hr:=hbad (by simp)
    clear hbad hgood
    go_wp2
    go_quiet ((go_at_call 189; with_reducible exact Calls.quiet_of_same (HQ1.out _)))
    go_wp2
    go_ret
    exact ⟨ret_bool hr.out.symm,_,(HE _).out⟩
   | true =>
    cases b2 with
    | true =>
     have hr:=hbad (by simp)
     clear hbad hgood
     go_wp2
     go_quiet (first | (go_at_call 189; with_reducible exact Calls.quiet_of_same (HQ1.out _)) | (go_at_call 237; with_reducible exact Calls.quiet_of_same (HQ2.out _)))
     go_wp2
     go_ret
     exact ⟨ret_bool hr.out.symm,_,(HE _).out⟩
    | false =>
     have hr:=hgood rfl rfl
     clear hbad hgood
     go_wp2
     go_quiet (first | (go_at_call 189; with_reducible exact Calls.quiet_of_same (HQ1.out _)) | (go_at_call 237; with_reducible exact Calls.quiet_of_same (HQ2.out _)))
     go_wp2
     go_roundw
     case rel => exact ⟨k + 1,_,by omega,by go_num,HE _,hr⟩
     case measure => simp [intOf]; omega
  ·have k1 : ¬ (k : Int) < (ss.length : Int):=by omega
   obtain rfl : k = ss.length:=by omega
   have hr:=kq (namesB_end hn.out)
   go_wp2_with fail
   refine (in_any (ss.length : Int) 1 8 (namesB ss) _ (by rw [hr.out]; simp only [decide_eq_decide]; omega)).mono ?_
   rintro e w1 ⟨rfl,rfl⟩
   go_wp2
   go_ret
   exact ⟨rfl,_,hw.out⟩
end Go.Proofs.YtefkhknfjohnaaaGreatDoor
