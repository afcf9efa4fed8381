/- The walk of ticket.perform. -/
import Derived.Test.YtfepgebnaglkaaaTicW
import Derived.RegionTactic
namespace Go.Proofs.Ytfepgebnaglkaaa
open Go.RowKit

theorem heap3_first (w : World) (a b c : Obj) : (((w.alloc a).alloc b).alloc c).heap[w.heap.size]? = some a := by
  rw [Go.heap_alloc_old ((w.alloc a).alloc b) c (by simp; omega)]
  exact heap_under w a b
theorem heap3_new (w : World) (a b c : Obj) : (((w.alloc a).alloc b).alloc c).heap[w.heap.size + 1 + 1]? = some c := by
  have := heap_alloc_new ((w.alloc a).alloc b) c
  simpa only [World.size_alloc] using this
theorem below_three (w : World) (a b c : Obj) : Below w.heap.size w (((w.alloc a).alloc b).alloc c) := (below_two w a b).alloc (by simp; omega) c
theorem row_all (l : LockT) : (lockRow l).all (·.oneCell') = true := by
  rw [Array.all_eq_true_iff_forall_mem]
  intro v hv
  exact lockRow_one l v (by simpa using hv)
set_option maxHeartbeats 1000000 in
set_option maxRecDepth 100000 in
theorem perform_ask (l : LockT) (n : Nat) (R Z : Array Value) (hz : ∀ w, (zeroValue 25).run Try.prog w = .ok (.agg Z) w) (HZ : Hid (Z.size = 18)) (HR : Hid (lockRow l = R)) (hn : n < 8) (nx : Int) (HN : Hid (l.next = nx)) (b0 : 0 ≤ nx) (b1 : nx ≤ 1099511627776) (w : World) :
    Calls Try.prog 19 #[.agg R, .agg #[.int .i64 1, .int .i64 n]] w fun e w' => e = .returned (.agg (lockRow (newT l 1 n))) ∧ Below w.heap.size w w' := by
  obtain ⟨R1, h1⟩ : ∃ R1, R.setIfInBounds (2 + n) (.int .i64 nx) = R1 := ⟨_, rfl⟩
  obtain ⟨R2, h2⟩ : ∃ R2, R1.setIfInBounds 0 (.int .i64 (nx + 1)) = R2 := ⟨_, rfl⟩
  have e1 : R1 = lockRow { l with mine := upI l.mine n nx } := by rw [← h1, ← HR.out, set_mine l hn]
  have e2 : R2 = lockRow (newT l 1 n) := by rw [← h2, e1, set_next, new_ask, HN.out]
  have q0 : R[0]? = some (.int .i64 nx) := by rw [← HR.out, ← HN.out]; rfl
  have qm : R[2 + n]? = some (.int .i64 (l.mine n)) := by rw [← HR.out, lockRow_mine _ hn]
  have r0 : R1[0]? = some (.int .i64 nx) := by rw [e1, ← HN.out]; rfl
  have HS : Hid (R2.size = 18) := Lib.hid (by rw [e2]; rfl)
  have HA : Hid (R2.all (·.oneCell') = true) := Lib.hid (by rw [e2]; exact row_all _)
  have HE := Lib.hid e2
  clear e1 e2
  go_enter Try.func19, Try.ntmps19
  go_wp2_with (first
    | (refine wpList_load_row rfl 25 _ rfl w.heap.size rfl 25 R2 (0, 0) _ (heap3_first w _ _ _) Try.underlying25 rfl (by rw [size_lock, HS.out]) ?_)
    | (refine wpList_store_row rfl 25 _ _ rfl (w.heap.size + 1 + 1) R2 rfl rfl 25 Z (heap3_new w _ _ _) (by rw [size_lock, HS.out]) (by rw [HS.out, HZ.out]) HA.out ?_; intro w4 hw4)
    | fail)
  refine bodyPost_ret (v := .agg R2) ?_ rfl ⟨by rw [HE.out], (below_three w _ _ _).trans (hw4.below _ (by omega))⟩
  exact results_cell_row (fn := Try.f19) rfl _ _ (w.heap.size + 1 + 1) 25 R2 (0, 0) _ rfl hw4.put Try.underlying25 rfl (by rw [size_lock, HS.out])
set_option maxHeartbeats 1000000 in
set_option maxRecDepth 100000 in
theorem perform_look (l : LockT) (n : Nat) (R Z : Array Value) (hz : ∀ w, (zeroValue 25).run Try.prog w = .ok (.agg Z) w) (HZ : Hid (Z.size = 18)) (HR : Hid (lockRow l = R)) (hn : n < 8) (w : World) :
    Calls Try.prog 19 #[.agg R, .agg #[.int .i64 2, .int .i64 n]] w fun e w' => e = .returned (.agg (lockRow (newT l 2 n))) ∧ Below w.heap.size w w' := by
  obtain ⟨m, hm⟩ : ∃ m, l.mine n = m := ⟨_, rfl⟩
  obtain ⟨nw, hnw⟩ : ∃ nw, l.now = nw := ⟨_, rfl⟩
  obtain ⟨t, ht⟩ : ∃ t, (m == nw) = t := ⟨_, rfl⟩
  obtain ⟨R1, h1⟩ : ∃ R1, R.setIfInBounds (10 + n) (.bool t) = R1 := ⟨_, rfl⟩
  have e1 : R1 = lockRow (newT l 2 n) := by
    rw [← h1, ← HR.out, set_inn l hn, new_look, ← ht, hm, hnw]
    rfl
  have q1 : R[1]? = some (.int .i64 nw) := by rw [← HR.out, ← hnw]; rfl
  have qm : R[2 + n]? = some (.int .i64 m) := by rw [← HR.out, lockRow_mine _ hn, hm]
  have qi : R[10 + n]? = some (.bool (l.inn n)) := by rw [← HR.out, lockRow_inn _ hn]
  have HS : Hid (R1.size = 18) := Lib.hid (by rw [e1]; rfl)
  have HA : Hid (R1.all (·.oneCell') = true) := Lib.hid (by rw [e1]; exact row_all _)
  have HE := Lib.hid e1
  clear e1 hm hnw
  go_enter Try.func19, Try.ntmps19
  go_wp2_with fail
  go_region
  go_wp2_with (first
    | (refine wpList_load_row rfl 25 _ rfl w.heap.size rfl 25 R1 (0, 0) _ (heap3_first w _ _ _) Try.underlying25 rfl (by rw [size_lock, HS.out]) ?_)
    | (refine wpList_store_row rfl 25 _ _ rfl (w.heap.size + 1 + 1) R1 rfl rfl 25 Z (heap3_new w _ _ _) (by rw [size_lock, HS.out]) (by rw [HS.out, HZ.out]) HA.out ?_; intro w4 hw4)
    | fail)
  refine bodyPost_ret (v := .agg R1) ?_ rfl ⟨by rw [HE.out], (below_three w _ _ _).drew.trans (hw4.below _ (by omega))⟩
  exact results_cell_row (fn := Try.f19) rfl _ _ (w.heap.size + 1 + 1) 25 R1 (0, 0) _ rfl hw4.put Try.underlying25 rfl (by rw [size_lock, HS.out])
set_option maxHeartbeats 1000000 in
set_option maxRecDepth 100000 in
theorem perform_free (l : LockT) (n : Nat) (R Z : Array Value) (hz : ∀ w, (zeroValue 25).run Try.prog w = .ok (.agg Z) w) (HZ : Hid (Z.size = 18)) (HR : Hid (lockRow l = R)) (hn : n < 8) (nw : Int) (HN : Hid (l.now = nw)) (b0 : 0 ≤ nw) (b1 : nw ≤ 1099511627776) (w : World) :
    Calls Try.prog 19 #[.agg R, .agg #[.int .i64 3, .int .i64 n]] w fun e w' => e = .returned (.agg (lockRow (newT l 3 n))) ∧ Below w.heap.size w w' := by
  obtain ⟨R1, h1⟩ : ∃ R1, R.setIfInBounds (10 + n) (.bool false) = R1 := ⟨_, rfl⟩
  obtain ⟨R2, h2⟩ : ∃ R2, R1.setIfInBounds (2 + n) (.int .i64 (-1)) = R2 := ⟨_, rfl⟩
  obtain ⟨R3, h3⟩ : ∃ R3, R2.setIfInBounds 1 (.int .i64 (nw + 1)) = R3 := ⟨_, rfl⟩
  have e1 : R1 = lockRow { l with inn := upB l.inn n false } := by rw [← h1, ← HR.out, set_inn l hn]
  have e2 : R2 = lockRow { l with inn := upB l.inn n false, mine := upI l.mine n (-1) } := by rw [← h2, e1, set_mine _ hn]
  have e3 : R3 = lockRow (newT l 3 n) := by rw [← h3, e2, set_now, new_free, HN.out]
  have qi : R[10 + n]? = some (.bool (l.inn n)) := by rw [← HR.out, lockRow_inn _ hn]
  have qm : R1[2 + n]? = some (.int .i64 (l.mine n)) := by rw [e1, lockRow_mine _ hn]
  have r0 : R2[1]? = some (.int .i64 nw) := by rw [e2, ← HN.out]; rfl
  have HS : Hid (R3.size = 18) := Lib.hid (by rw [e3]; rfl)
  have HA : Hid (R3.all (·.oneCell') = true) := Lib.hid (by rw [e3]; exact row_all _)
  have HE := Lib.hid e3
  clear e1 e2 e3
  go_enter Try.func19, Try.ntmps19
  go_wp2_with (first
    | (refine wpList_load_row rfl 25 _ rfl w.heap.size rfl 25 R3 (0, 0) _ (heap3_first w _ _ _) Try.underlying25 rfl (by rw [size_lock, HS.out]) ?_)
    | (refine wpList_store_row rfl 25 _ _ rfl (w.heap.size + 1 + 1) R3 rfl rfl 25 Z (heap3_new w _ _ _) (by rw [size_lock, HS.out]) (by rw [HS.out, HZ.out]) HA.out ?_; intro w4 hw4)
    | fail)
  refine bodyPost_ret (v := .agg R3) ?_ rfl ⟨by rw [HE.out], (below_three w _ _ _).trans (hw4.below _ (by omega))⟩
  exact results_cell_row (fn := Try.f19) rfl _ _ (w.heap.size + 1 + 1) 25 R3 (0, 0) _ rfl hw4.put Try.underlying25 rfl (by rw [size_lock, HS.out])
end Go.Proofs.Ytfepgebnaglkaaa
