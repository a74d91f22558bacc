/- The contract of the program's onlyMentioned. -/
import Derived.Test.YtkegjgfggijinaaValidD
namespace Go.Proofs.Ytkegjgfggijinaa
open Go Go.RowKit
/-- A rule comes back, in a struct. -/
def RuleBack (r : RuleV) (w : World) (e : Ending) (w' : World) : Prop := ∃ ds : List Value, e = .returned (.agg ds.toArray) ∧ IsRule r ds w' ∧ Below w.heap.size w w'
theorem rdf_none {α : Type} {f : α → Value} (w : World) : RdF f none [] w := fun j hj => by simp at hj
theorem rd_none (w : World) : Rd none [] w := fun j hj => by simp at hj

set_option maxRecDepth 100000 in
set_option maxHeartbeats 2000000 in
theorem only_1 (r : RuleV) (cs : List Value) (w : World) (h : IsRule r cs w) (hk : r.kind = 1) :
    Calls Try.prog 33 #[.agg cs.toArray] w (RuleBack (onlyR r) w) := by
  obtain ⟨a4, c4, a5, c5, a6, c6, a7, c7, rfl, h4, h5, h6, h7⟩ := h
  obtain ⟨nm, kd, sz, lt, bs, ns, ts, ks⟩ := r
  dsimp only at hk h4 h5 h6 h7
  subst hk
  have ho : onlyR ⟨nm, 1, sz, lt, bs, ns, ts, ks⟩ = ⟨nm, 1, sz, lt, [], [], [], []⟩ := by simp [onlyR]
  rw [ho]
  clear ho
  have hB : Below w.heap.size w ((((w.alloc (.cells #[.string nm, .int .i64 1, .int .i64 sz, .bool lt, .slice a4 bs.length c4, .slice a5 ns.length c5, .slice a6 ts.length c6, .slice a7 ks.length c7] 35)).alloc (.cells #[.string nm, .int .i64 1, .int .i64 sz, .bool lt, .slice none 0 0, .slice none 0 0, .slice none 0 0, .slice none 0 0] 35)).alloc (.cells #[.string nm, .int .i64 1, .int .i64 sz, .bool lt, .slice none 0 0, .slice none 0 0, .slice none 0 0, .slice none 0 0] 35)).drew) := below_drewN ((((Below.refl _ _).alloc (Nat.le_refl _) _).alloc (by simp) _).alloc (by simp; omega) _) 1
  clear h4
  clear h5
  clear h6
  clear h7
  have HB := Lib.hid hB
  clear hB
  go_enter Try.func33, Try.ntmps33
  go_wp2
  go_region
  all_goals go_wp2
  (try simp only [Exit.inBlock, Exit.then])
  refine bodyPost_ret (v := .agg #[.string nm, .int .i64 1, .int .i64 sz, .bool lt, .slice none 0 0, .slice none 0 0, .slice none 0 0, .slice none 0 0]) ?_ rfl ?_
  · simp [results, Try.results33, go_sem]
  · exact ⟨[.string nm, .int .i64 1, .int .i64 sz, .bool lt, .slice none 0 0, .slice none 0 0, .slice none 0 0, .slice none 0 0], rfl, ⟨none, 0, none, 0, none, 0, none, 0, rfl, rd_none _, rdf_none _, rdf_none _, rdf_none _⟩, HB.out⟩
set_option maxRecDepth 100000 in
set_option maxHeartbeats 2000000 in
theorem only_2 (r : RuleV) (cs : List Value) (w : World) (h : IsRule r cs w) (hk : r.kind = 2) :
    Calls Try.prog 33 #[.agg cs.toArray] w (RuleBack (onlyR r) w) := by
  obtain ⟨a4, c4, a5, c5, a6, c6, a7, c7, rfl, h4, h5, h6, h7⟩ := h
  obtain ⟨nm, kd, sz, lt, bs, ns, ts, ks⟩ := r
  dsimp only at hk h4 h5 h6 h7
  subst hk
  have ho : onlyR ⟨nm, 2, sz, lt, bs, ns, ts, ks⟩ = ⟨nm, 2, 0, false, bs, [], [], []⟩ := by simp [onlyR]
  rw [ho]
  clear ho
  have hB : Below w.heap.size w ((((w.alloc (.cells #[.string nm, .int .i64 2, .int .i64 sz, .bool lt, .slice a4 bs.length c4, .slice a5 ns.length c5, .slice a6 ts.length c6, .slice a7 ks.length c7] 35)).alloc (.cells #[.string nm, .int .i64 2, .int .i64 0, .bool false, .slice a4 bs.length c4, .slice none 0 0, .slice none 0 0, .slice none 0 0] 35)).alloc (.cells #[.string nm, .int .i64 2, .int .i64 0, .bool false, .slice a4 bs.length c4, .slice none 0 0, .slice none 0 0, .slice none 0 0] 35))) := (((Below.refl _ _).alloc (Nat.le_refl _) _).alloc (by simp) _).alloc (by simp; omega) _
  have H4 := Lib.hid (h4.below hB)
  clear h4
  clear h5
  clear h6
  clear h7
  have HB := Lib.hid hB
  clear hB
  go_enter Try.func33, Try.ntmps33
  go_wp2
  (try simp only [Exit.inBlock, Exit.then])
  refine bodyPost_ret (v := .agg #[.string nm, .int .i64 2, .int .i64 0, .bool false, .slice a4 bs.length c4, .slice none 0 0, .slice none 0 0, .slice none 0 0]) ?_ rfl ?_
  · simp [results, Try.results33, go_sem]
  · exact ⟨[.string nm, .int .i64 2, .int .i64 0, .bool false, .slice a4 bs.length c4, .slice none 0 0, .slice none 0 0, .slice none 0 0], rfl, ⟨a4, c4, none, 0, none, 0, none, 0, rfl, H4.out, rdf_none _, rdf_none _, rdf_none _⟩, HB.out⟩
set_option maxRecDepth 100000 in
set_option maxHeartbeats 2000000 in
theorem only_3 (r : RuleV) (cs : List Value) (w : World) (h : IsRule r cs w) (hk : r.kind = 3) :
    Calls Try.prog 33 #[.agg cs.toArray] w (RuleBack (onlyR r) w) := by
  obtain ⟨a4, c4, a5, c5, a6, c6, a7, c7, rfl, h4, h5, h6, h7⟩ := h
  obtain ⟨nm, kd, sz, lt, bs, ns, ts, ks⟩ := r
  dsimp only at hk h4 h5 h6 h7
  subst hk
  have ho : onlyR ⟨nm, 3, sz, lt, bs, ns, ts, ks⟩ = ⟨nm, 3, sz, false, [], [], [], []⟩ := by simp [onlyR]
  rw [ho]
  clear ho
  have hB : Below w.heap.size w ((((w.alloc (.cells #[.string nm, .int .i64 3, .int .i64 sz, .bool lt, .slice a4 bs.length c4, .slice a5 ns.length c5, .slice a6 ts.length c6, .slice a7 ks.length c7] 35)).alloc (.cells #[.string nm, .int .i64 3, .int .i64 sz, .bool false, .slice none 0 0, .slice none 0 0, .slice none 0 0, .slice none 0 0] 35)).alloc (.cells #[.string nm, .int .i64 3, .int .i64 sz, .bool false, .slice none 0 0, .slice none 0 0, .slice none 0 0, .slice none 0 0] 35))) := (((Below.refl _ _).alloc (Nat.le_refl _) _).alloc (by simp) _).alloc (by simp; omega) _
  clear h4
  clear h5
  clear h6
  clear h7
  have HB := Lib.hid hB
  clear hB
  go_enter Try.func33, Try.ntmps33
  go_wp2
  (try simp only [Exit.inBlock, Exit.then])
  refine bodyPost_ret (v := .agg #[.string nm, .int .i64 3, .int .i64 sz, .bool false, .slice none 0 0, .slice none 0 0, .slice none 0 0, .slice none 0 0]) ?_ rfl ?_
  · simp [results, Try.results33, go_sem]
  · exact ⟨[.string nm, .int .i64 3, .int .i64 sz, .bool false, .slice none 0 0, .slice none 0 0, .slice none 0 0, .slice none 0 0], rfl, ⟨none, 0, none, 0, none, 0, none, 0, rfl, rd_none _, rdf_none _, rdf_none _, rdf_none _⟩, HB.out⟩
set_option maxRecDepth 100000 in
set_option maxHeartbeats 2000000 in
theorem only_4 (r : RuleV) (cs : List Value) (w : World) (h : IsRule r cs w) (hk : r.kind = 4) :
    Calls Try.prog 33 #[.agg cs.toArray] w (RuleBack (onlyR r) w) := by
  obtain ⟨a4, c4, a5, c5, a6, c6, a7, c7, rfl, h4, h5, h6, h7⟩ := h
  obtain ⟨nm, kd, sz, lt, bs, ns, ts, ks⟩ := r
  dsimp only at hk h4 h5 h6 h7
  subst hk
  have ho : onlyR ⟨nm, 4, sz, lt, bs, ns, ts, ks⟩ = ⟨nm, 4, 0, false, [], [], [], ks⟩ := by simp [onlyR]
  rw [ho]
  clear ho
  have hB : Below w.heap.size w ((((w.alloc (.cells #[.string nm, .int .i64 4, .int .i64 sz, .bool lt, .slice a4 bs.length c4, .slice a5 ns.length c5, .slice a6 ts.length c6, .slice a7 ks.length c7] 35)).alloc (.cells #[.string nm, .int .i64 4, .int .i64 0, .bool false, .slice none 0 0, .slice none 0 0, .slice none 0 0, .slice a7 ks.length c7] 35)).alloc (.cells #[.string nm, .int .i64 4, .int .i64 0, .bool false, .slice none 0 0, .slice none 0 0, .slice none 0 0, .slice a7 ks.length c7] 35))) := (((Below.refl _ _).alloc (Nat.le_refl _) _).alloc (by simp) _).alloc (by simp; omega) _
  clear h4
  clear h5
  clear h6
  have H7 := Lib.hid (h7.below hB)
  clear h7
  have HB := Lib.hid hB
  clear hB
  go_enter Try.func33, Try.ntmps33
  go_wp2
  (try simp only [Exit.inBlock, Exit.then])
  refine bodyPost_ret (v := .agg #[.string nm, .int .i64 4, .int .i64 0, .bool false, .slice none 0 0, .slice none 0 0, .slice none 0 0, .slice a7 ks.length c7]) ?_ rfl ?_
  · simp [results, Try.results33, go_sem]
  · exact ⟨[.string nm, .int .i64 4, .int .i64 0, .bool false, .slice none 0 0, .slice none 0 0, .slice none 0 0, .slice a7 ks.length c7], rfl, ⟨none, 0, none, 0, none, 0, a7, c7, rfl, rd_none _, rdf_none _, rdf_none _, H7.out⟩, HB.out⟩
set_option maxRecDepth 100000 in
set_option maxHeartbeats 2000000 in
theorem only_5 (r : RuleV) (cs : List Value) (w : World) (h : IsRule r cs w) (hk : r.kind = 5) :
    Calls Try.prog 33 #[.agg cs.toArray] w (RuleBack (onlyR r) w) := by
  obtain ⟨a4, c4, a5, c5, a6, c6, a7, c7, rfl, h4, h5, h6, h7⟩ := h
  obtain ⟨nm, kd, sz, lt, bs, ns, ts, ks⟩ := r
  dsimp only at hk h4 h5 h6 h7
  subst hk
  have ho : onlyR ⟨nm, 5, sz, lt, bs, ns, ts, ks⟩ = ⟨nm, 5, 0, false, [], [], [], ks⟩ := by simp [onlyR]
  rw [ho]
  clear ho
  have hB : Below w.heap.size w ((((w.alloc (.cells #[.string nm, .int .i64 5, .int .i64 sz, .bool lt, .slice a4 bs.length c4, .slice a5 ns.length c5, .slice a6 ts.length c6, .slice a7 ks.length c7] 35)).alloc (.cells #[.string nm, .int .i64 5, .int .i64 0, .bool false, .slice none 0 0, .slice none 0 0, .slice none 0 0, .slice a7 ks.length c7] 35)).alloc (.cells #[.string nm, .int .i64 5, .int .i64 0, .bool false, .slice none 0 0, .slice none 0 0, .slice none 0 0, .slice a7 ks.length c7] 35))) := (((Below.refl _ _).alloc (Nat.le_refl _) _).alloc (by simp) _).alloc (by simp; omega) _
  clear h4
  clear h5
  clear h6
  have H7 := Lib.hid (h7.below hB)
  clear h7
  have HB := Lib.hid hB
  clear hB
  go_enter Try.func33, Try.ntmps33
  go_wp2
  (try simp only [Exit.inBlock, Exit.then])
  refine bodyPost_ret (v := .agg #[.string nm, .int .i64 5, .int .i64 0, .bool false, .slice none 0 0, .slice none 0 0, .slice none 0 0, .slice a7 ks.length c7]) ?_ rfl ?_
  · simp [results, Try.results33, go_sem]
  · exact ⟨[.string nm, .int .i64 5, .int .i64 0, .bool false, .slice none 0 0, .slice none 0 0, .slice none 0 0, .slice a7 ks.length c7], rfl, ⟨none, 0, none, 0, none, 0, a7, c7, rfl, rd_none _, rdf_none _, rdf_none _, H7.out⟩, HB.out⟩
set_option maxRecDepth 100000 in
set_option maxHeartbeats 2000000 in
theorem only_6 (r : RuleV) (cs : List Value) (w : World) (h : IsRule r cs w) (hk : r.kind = 6) :
    Calls Try.prog 33 #[.agg cs.toArray] w (RuleBack (onlyR r) w) := by
  obtain ⟨a4, c4, a5, c5, a6, c6, a7, c7, rfl, h4, h5, h6, h7⟩ := h
  obtain ⟨nm, kd, sz, lt, bs, ns, ts, ks⟩ := r
  dsimp only at hk h4 h5 h6 h7
  subst hk
  have ho : onlyR ⟨nm, 6, sz, lt, bs, ns, ts, ks⟩ = ⟨nm, 6, 0, false, [], ns, [], ks⟩ := by simp [onlyR]
  rw [ho]
  clear ho
  have hB : Below w.heap.size w ((((w.alloc (.cells #[.string nm, .int .i64 6, .int .i64 sz, .bool lt, .slice a4 bs.length c4, .slice a5 ns.length c5, .slice a6 ts.length c6, .slice a7 ks.length c7] 35)).alloc (.cells #[.string nm, .int .i64 6, .int .i64 0, .bool false, .slice none 0 0, .slice a5 ns.length c5, .slice none 0 0, .slice a7 ks.length c7] 35)).alloc (.cells #[.string nm, .int .i64 6, .int .i64 0, .bool false, .slice none 0 0, .slice a5 ns.length c5, .slice none 0 0, .slice a7 ks.length c7] 35)).drew) := below_drewN ((((Below.refl _ _).alloc (Nat.le_refl _) _).alloc (by simp) _).alloc (by simp; omega) _) 1
  clear h4
  have H5 := Lib.hid (h5.below hB)
  clear h5
  clear h6
  have H7 := Lib.hid (h7.below hB)
  clear h7
  have HB := Lib.hid hB
  clear hB
  go_enter Try.func33, Try.ntmps33
  go_wp2
  go_region
  all_goals go_wp2
  (try simp only [Exit.inBlock, Exit.then])
  refine bodyPost_ret (v := .agg #[.string nm, .int .i64 6, .int .i64 0, .bool false, .slice none 0 0, .slice a5 ns.length c5, .slice none 0 0, .slice a7 ks.length c7]) ?_ rfl ?_
  · simp [results, Try.results33, go_sem]
  · exact ⟨[.string nm, .int .i64 6, .int .i64 0, .bool false, .slice none 0 0, .slice a5 ns.length c5, .slice none 0 0, .slice a7 ks.length c7], rfl, ⟨none, 0, a5, c5, none, 0, a7, c7, rfl, rd_none _, H5.out, rdf_none _, H7.out⟩, HB.out⟩
set_option maxRecDepth 100000 in
set_option maxHeartbeats 2000000 in
theorem only_7 (r : RuleV) (cs : List Value) (w : World) (h : IsRule r cs w) (hk : r.kind = 7) :
    Calls Try.prog 33 #[.agg cs.toArray] w (RuleBack (onlyR r) w) := by
  obtain ⟨a4, c4, a5, c5, a6, c6, a7, c7, rfl, h4, h5, h6, h7⟩ := h
  obtain ⟨nm, kd, sz, lt, bs, ns, ts, ks⟩ := r
  dsimp only at hk h4 h5 h6 h7
  subst hk
  have ho : onlyR ⟨nm, 7, sz, lt, bs, ns, ts, ks⟩ = ⟨nm, 7, 0, false, [], [], ts, ks⟩ := by simp [onlyR]
  rw [ho]
  clear ho
  have hB : Below w.heap.size w ((((w.alloc (.cells #[.string nm, .int .i64 7, .int .i64 sz, .bool lt, .slice a4 bs.length c4, .slice a5 ns.length c5, .slice a6 ts.length c6, .slice a7 ks.length c7] 35)).alloc (.cells #[.string nm, .int .i64 7, .int .i64 0, .bool false, .slice none 0 0, .slice none 0 0, .slice a6 ts.length c6, .slice a7 ks.length c7] 35)).alloc (.cells #[.string nm, .int .i64 7, .int .i64 0, .bool false, .slice none 0 0, .slice none 0 0, .slice a6 ts.length c6, .slice a7 ks.length c7] 35)).drew) := below_drewN ((((Below.refl _ _).alloc (Nat.le_refl _) _).alloc (by simp) _).alloc (by simp; omega) _) 1
  clear h4
  clear h5
  have H6 := Lib.hid (h6.below hB)
  clear h6
  have H7 := Lib.hid (h7.below hB)
  clear h7
  have HB := Lib.hid hB
  clear hB
  go_enter Try.func33, Try.ntmps33
  go_wp2
  go_region
  all_goals go_wp2
  (try simp only [Exit.inBlock, Exit.then])
  refine bodyPost_ret (v := .agg #[.string nm, .int .i64 7, .int .i64 0, .bool false, .slice none 0 0, .slice none 0 0, .slice a6 ts.length c6, .slice a7 ks.length c7]) ?_ rfl ?_
  · simp [results, Try.results33, go_sem]
  · exact ⟨[.string nm, .int .i64 7, .int .i64 0, .bool false, .slice none 0 0, .slice none 0 0, .slice a6 ts.length c6, .slice a7 ks.length c7], rfl, ⟨none, 0, none, 0, a6, c6, a7, c7, rfl, rd_none _, rdf_none _, H6.out, H7.out⟩, HB.out⟩
set_option maxRecDepth 100000 in
set_option maxHeartbeats 2000000 in
theorem only_8 (r : RuleV) (cs : List Value) (w : World) (h : IsRule r cs w) (hk : r.kind = 8) :
    Calls Try.prog 33 #[.agg cs.toArray] w (RuleBack (onlyR r) w) := by
  obtain ⟨a4, c4, a5, c5, a6, c6, a7, c7, rfl, h4, h5, h6, h7⟩ := h
  obtain ⟨nm, kd, sz, lt, bs, ns, ts, ks⟩ := r
  dsimp only at hk h4 h5 h6 h7
  subst hk
  have ho : onlyR ⟨nm, 8, sz, lt, bs, ns, ts, ks⟩ = ⟨nm, 8, 0, false, [], [], [], ks⟩ := by simp [onlyR]
  rw [ho]
  clear ho
  have hB : Below w.heap.size w ((((w.alloc (.cells #[.string nm, .int .i64 8, .int .i64 sz, .bool lt, .slice a4 bs.length c4, .slice a5 ns.length c5, .slice a6 ts.length c6, .slice a7 ks.length c7] 35)).alloc (.cells #[.string nm, .int .i64 8, .int .i64 0, .bool false, .slice none 0 0, .slice none 0 0, .slice none 0 0, .slice a7 ks.length c7] 35)).alloc (.cells #[.string nm, .int .i64 8, .int .i64 0, .bool false, .slice none 0 0, .slice none 0 0, .slice none 0 0, .slice a7 ks.length c7] 35))) := (((Below.refl _ _).alloc (Nat.le_refl _) _).alloc (by simp) _).alloc (by simp; omega) _
  clear h4
  clear h5
  clear h6
  have H7 := Lib.hid (h7.below hB)
  clear h7
  have HB := Lib.hid hB
  clear hB
  go_enter Try.func33, Try.ntmps33
  go_wp2
  (try simp only [Exit.inBlock, Exit.then])
  refine bodyPost_ret (v := .agg #[.string nm, .int .i64 8, .int .i64 0, .bool false, .slice none 0 0, .slice none 0 0, .slice none 0 0, .slice a7 ks.length c7]) ?_ rfl ?_
  · simp [results, Try.results33, go_sem]
  · exact ⟨[.string nm, .int .i64 8, .int .i64 0, .bool false, .slice none 0 0, .slice none 0 0, .slice none 0 0, .slice a7 ks.length c7], rfl, ⟨none, 0, none, 0, none, 0, a7, c7, rfl, rd_none _, rdf_none _, rdf_none _, H7.out⟩, HB.out⟩
set_option maxRecDepth 100000 in
set_option maxHeartbeats 2000000 in
theorem only_9 (r : RuleV) (cs : List Value) (w : World) (h : IsRule r cs w) (hk : r.kind = 9) :
    Calls Try.prog 33 #[.agg cs.toArray] w (RuleBack (onlyR r) w) := by
  obtain ⟨a4, c4, a5, c5, a6, c6, a7, c7, rfl, h4, h5, h6, h7⟩ := h
  obtain ⟨nm, kd, sz, lt, bs, ns, ts, ks⟩ := r
  dsimp only at hk h4 h5 h6 h7
  subst hk
  have ho : onlyR ⟨nm, 9, sz, lt, bs, ns, ts, ks⟩ = ⟨nm, 9, 0, false, [], [], [], ks⟩ := by simp [onlyR]
  rw [ho]
  clear ho
  have hB : Below w.heap.size w ((((w.alloc (.cells #[.string nm, .int .i64 9, .int .i64 sz, .bool lt, .slice a4 bs.length c4, .slice a5 ns.length c5, .slice a6 ts.length c6, .slice a7 ks.length c7] 35)).alloc (.cells #[.string nm, .int .i64 9, .int .i64 0, .bool false, .slice none 0 0, .slice none 0 0, .slice none 0 0, .slice a7 ks.length c7] 35)).alloc (.cells #[.string nm, .int .i64 9, .int .i64 0, .bool false, .slice none 0 0, .slice none 0 0, .slice none 0 0, .slice a7 ks.length c7] 35))) := (((Below.refl _ _).alloc (Nat.le_refl _) _).alloc (by simp) _).alloc (by simp; omega) _
  clear h4
  clear h5
  clear h6
  have H7 := Lib.hid (h7.below hB)
  clear h7
  have HB := Lib.hid hB
  clear hB
  go_enter Try.func33, Try.ntmps33
  go_wp2
  (try simp only [Exit.inBlock, Exit.then])
  refine bodyPost_ret (v := .agg #[.string nm, .int .i64 9, .int .i64 0, .bool false, .slice none 0 0, .slice none 0 0, .slice none 0 0, .slice a7 ks.length c7]) ?_ rfl ?_
  · simp [results, Try.results33, go_sem]
  · exact ⟨[.string nm, .int .i64 9, .int .i64 0, .bool false, .slice none 0 0, .slice none 0 0, .slice none 0 0, .slice a7 ks.length c7], rfl, ⟨none, 0, none, 0, none, 0, a7, c7, rfl, rd_none _, rdf_none _, rdf_none _, H7.out⟩, HB.out⟩
set_option maxRecDepth 100000 in
set_option maxHeartbeats 2000000 in
theorem only_10 (r : RuleV) (cs : List Value) (w : World) (h : IsRule r cs w) (hk : r.kind = 10) :
    Calls Try.prog 33 #[.agg cs.toArray] w (RuleBack (onlyR r) w) := by
  obtain ⟨a4, c4, a5, c5, a6, c6, a7, c7, rfl, h4, h5, h6, h7⟩ := h
  obtain ⟨nm, kd, sz, lt, bs, ns, ts, ks⟩ := r
  dsimp only at hk h4 h5 h6 h7
  subst hk
  have ho : onlyR ⟨nm, 10, sz, lt, bs, ns, ts, ks⟩ = ⟨nm, 10, 0, false, bs, [], [], []⟩ := by simp [onlyR]
  rw [ho]
  clear ho
  have hB : Below w.heap.size w ((((w.alloc (.cells #[.string nm, .int .i64 10, .int .i64 sz, .bool lt, .slice a4 bs.length c4, .slice a5 ns.length c5, .slice a6 ts.length c6, .slice a7 ks.length c7] 35)).alloc (.cells #[.string nm, .int .i64 10, .int .i64 0, .bool false, .slice a4 bs.length c4, .slice none 0 0, .slice none 0 0, .slice none 0 0] 35)).alloc (.cells #[.string nm, .int .i64 10, .int .i64 0, .bool false, .slice a4 bs.length c4, .slice none 0 0, .slice none 0 0, .slice none 0 0] 35))) := (((Below.refl _ _).alloc (Nat.le_refl _) _).alloc (by simp) _).alloc (by simp; omega) _
  have H4 := Lib.hid (h4.below hB)
  clear h4
  clear h5
  clear h6
  clear h7
  have HB := Lib.hid hB
  clear hB
  go_enter Try.func33, Try.ntmps33
  go_wp2
  (try simp only [Exit.inBlock, Exit.then])
  refine bodyPost_ret (v := .agg #[.string nm, .int .i64 10, .int .i64 0, .bool false, .slice a4 bs.length c4, .slice none 0 0, .slice none 0 0, .slice none 0 0]) ?_ rfl ?_
  · simp [results, Try.results33, go_sem]
  · exact ⟨[.string nm, .int .i64 10, .int .i64 0, .bool false, .slice a4 bs.length c4, .slice none 0 0, .slice none 0 0, .slice none 0 0], rfl, ⟨a4, c4, none, 0, none, 0, none, 0, rfl, H4.out, rdf_none _, rdf_none _, rdf_none _⟩, HB.out⟩
set_option maxRecDepth 100000 in
set_option maxHeartbeats 2000000 in
theorem only_0 (r : RuleV) (cs : List Value) (w : World) (h : IsRule r cs w) (k1 : r.kind ≠ 1) (k2 : r.kind ≠ 2) (k3 : r.kind ≠ 3) (k4 : r.kind ≠ 4) (k5 : r.kind ≠ 5) (k6 : r.kind ≠ 6) (k7 : r.kind ≠ 7) (k8 : r.kind ≠ 8) (k9 : r.kind ≠ 9) (k10 : r.kind ≠ 10) :
    Calls Try.prog 33 #[.agg cs.toArray] w (RuleBack (onlyR r) w) := by
  obtain ⟨a4, c4, a5, c5, a6, c6, a7, c7, rfl, h4, h5, h6, h7⟩ := h
  obtain ⟨nm, kd, sz, lt, bs, ns, ts, ks⟩ := r
  dsimp only at k1 k2 k3 k4 k5 k6 k7 k8 k9 k10 h4 h5 h6 h7
  have g1 : (kd == 1) = false := by simpa using k1
  have g2 : (kd == 2) = false := by simpa using k2
  have g3 : (kd == 3) = false := by simpa using k3
  have g4 : (kd == 4) = false := by simpa using k4
  have g5 : (kd == 5) = false := by simpa using k5
  have g6 : (kd == 6) = false := by simpa using k6
  have g7 : (kd == 7) = false := by simpa using k7
  have g8 : (kd == 8) = false := by simpa using k8
  have g9 : (kd == 9) = false := by simpa using k9
  have g10 : (kd == 10) = false := by simpa using k10
  have ho : onlyR ⟨nm, kd, sz, lt, bs, ns, ts, ks⟩ = ⟨nm, kd, 0, false, [], [], [], []⟩ := by simp [onlyR, k1, k2, k3, k4, k5, k6, k7, k8, k9, k10]
  rw [ho]
  clear ho
  have hB : Below w.heap.size w ((((w.alloc (.cells #[.string nm, .int .i64 kd, .int .i64 sz, .bool lt, .slice a4 bs.length c4, .slice a5 ns.length c5, .slice a6 ts.length c6, .slice a7 ks.length c7] 35)).alloc (.cells #[.string nm, .int .i64 kd, .int .i64 0, .bool false, .slice none 0 0, .slice none 0 0, .slice none 0 0, .slice none 0 0] 35)).alloc (.cells #[.string nm, .int .i64 kd, .int .i64 0, .bool false, .slice none 0 0, .slice none 0 0, .slice none 0 0, .slice none 0 0] 35))) := (((Below.refl _ _).alloc (Nat.le_refl _) _).alloc (by simp) _).alloc (by simp; omega) _
  clear h4
  clear h5
  clear h6
  clear h7
  have HB := Lib.hid hB
  clear hB
  go_enter Try.func33, Try.ntmps33
  go_wp2
  (try simp only [Exit.inBlock, Exit.then])
  refine bodyPost_ret (v := .agg #[.string nm, .int .i64 kd, .int .i64 0, .bool false, .slice none 0 0, .slice none 0 0, .slice none 0 0, .slice none 0 0]) ?_ rfl ?_
  · simp [results, Try.results33, go_sem]
  · exact ⟨[.string nm, .int .i64 kd, .int .i64 0, .bool false, .slice none 0 0, .slice none 0 0, .slice none 0 0, .slice none 0 0], rfl, ⟨none, 0, none, 0, none, 0, none, 0, rfl, rd_none _, rdf_none _, rdf_none _, rdf_none _⟩, HB.out⟩
theorem only_impl (r : RuleV) (cs : List Value) (w : World) (h : IsRule r cs w) :
    Calls Try.prog 33 #[.agg cs.toArray] w (RuleBack (onlyR r) w) := by
  rcases kind_cases r.kind with hk | hk | hk | hk | hk | hk | hk | hk | hk | hk | ⟨k1, k2, k3, k4, k5, k6, k7, k8, k9, k10⟩
  · exact only_1 r cs w h hk
  · exact only_2 r cs w h hk
  · exact only_3 r cs w h hk
  · exact only_4 r cs w h hk
  · exact only_5 r cs w h hk
  · exact only_6 r cs w h hk
  · exact only_7 r cs w h hk
  · exact only_8 r cs w h hk
  · exact only_9 r cs w h hk
  · exact only_10 r cs w h hk
  · exact only_0 r cs w h k1 k2 k3 k4 k5 k6 k7 k8 k9 k10
end Go.Proofs.Ytkegjgfggijinaa
