/- The walk of TicketSteps. -/
import Derived.Test.YtfepgebnaglkaaaTicFt
namespace Go.Proofs.Ytfepgebnaglkaaa
open Go.RowKit

set_option maxHeartbeats 1000000 in
set_option maxRecDepth 100000 in
theorem steps_core (l l' : LockT) (k c x : Int) (t b : Bool) (R R' Z : Array Value) (hz : ∀ w, (zeroValue 25).run Try.prog w = .ok (.agg Z) w) (HZ : Hid (Z.size = 18)) (HR : Hid (lockRow l = R)) (HR' : Hid (lockRow l' = R')) (H : Hid (stepT l k c = (l', t, x))) (HO : Hid (okT l = b)) (w : World) :
    Calls Try.prog 3 #[.agg R, .agg #[.int .i64 k, .int .i64 c]] w fun e w' => e = .returned (.bool true) ∧ Below w.heap.size w w' := by
  have HS : Hid (R.size = 18) := Lib.hid (by rw [← HR.out]; rfl)
  have HS' : Hid (R'.size = 18) := Lib.hid (by rw [← HR'.out]; rfl)
  have HA : Hid (R'.all (·.oneCell') = true) := Lib.hid (by rw [← HR'.out]; exact row_all _)
  have hEq := fun w => eq_lock l' R' HR' w
  have B0 := Lib.hid (below_two w (.cells R 25) (.cells #[.int .i64 k, .int .i64 c] 27))
  have R0 := Lib.hid (heap_under w (.cells R 25) (.cells #[.int .i64 k, .int .i64 c] 27))
  have O0 := Lib.hid (heap_alloc2_new w (.cells R 25) (.cells #[.int .i64 k, .int .i64 c] 27))
  go_enter Try.func3, Try.ntmps3
  go_wp2_with (first
    | (refine wpList_load_row rfl 25 _ rfl w.heap.size rfl 25 R (0, 0) _ R0.out Try.underlying25 rfl (by rw [size_lock, HS.out]) ?_)
    | (go_at_call 9; (with_reducible refine (step_R l k c R R' t x l' HR HR' H _).mono ?_); rintro e w1 ⟨rfl, hb⟩; have B1 := Lib.hid (pstep B0.out hb); have R1 := Lib.hid (heap_step R0.out hb); have O1 := Lib.hid (heap_step O0.out hb); clear hb)
    | (refine wpList_store_row rfl 25 _ _ rfl w1.heap.size R' rfl rfl 25 Z (heap_alloc_new w1 _) (by rw [size_lock, HS'.out]) (by rw [HS'.out, HZ.out]) HA.out ?_; intro w2 hw2; have C2 := Lib.hid ((below_alloc w1 (.cells Z 25)).trans (hw2.below _ (Nat.le_refl _))); have B2 := Lib.hid (pstep B1.out C2.out); have R2 := Lib.hid (heap_step R1.out C2.out); have O2 := Lib.hid (heap_step O1.out C2.out); have G2 := pair_cells O2.out; have P2 := Lib.hid hw2.put; clear hw2)
    | (refine wpList_load_row rfl 25 _ rfl w.heap.size rfl 25 R (0, 0) _ R2.out Try.underlying25 rfl (by rw [size_lock, HS.out]) ?_)
    | (go_at_call 10; (with_reducible refine (fstep_R l k c R R' t x l' HR HR' H _).mono ?_); rintro e w3 ⟨rfl, hb⟩; have B3 := Lib.hid (pstep B2.out hb); have R3 := Lib.hid (heap_step R2.out hb); have P3 := Lib.hid (heap_step P2.out hb); clear hb)
    | (refine wpList_store_row rfl 25 _ _ rfl w3.heap.size R' rfl rfl 25 Z (heap_alloc_new w3 _) (by rw [size_lock, HS'.out]) (by rw [HS'.out, HZ.out]) HA.out ?_; intro w4 hw4; have C4 := Lib.hid ((below_alloc w3 (.cells Z 25)).trans (hw4.below _ (Nat.le_refl _))); have B4 := Lib.hid (pstep B3.out C4.out); have R4 := Lib.hid (heap_step R3.out C4.out); have P4 := Lib.hid (heap_step P3.out C4.out); have N4 := Lib.hid hw4.put; clear hw4)
    | (refine wpList_load_row rfl 25 _ rfl w.heap.size rfl 25 R (0, 0) _ R4.out Try.underlying25 rfl (by rw [size_lock, HS.out]) ?_)
    | (go_at_call 11; (with_reducible refine (queue_R l R HR _).mono ?_); rintro e w5 ⟨ra, rc, qs, b2, rfl, hb1, hb2, hql, hat, hb⟩; have e5 : b2 = b := (by rw [← HO.out, Bool.eq_iff_iff, hb1, okT_true]); subst e5; have B5 := Lib.hid (pstep B4.out hb); have R5 := Lib.hid (heap_step R4.out hb); have P5 := Lib.hid (heap_step P4.out hb); have N5 := Lib.hid (heap_step N4.out hb); clear hb hb1 hb2 hat hql)
    | (refine wpList_load_row rfl 25 _ rfl w.heap.size rfl 25 R (0, 0) _ R5.out Try.underlying25 rfl (by rw [size_lock, HS.out]) ?_)
    | (go_at_call 12; (with_reducible refine (right_Y l R HR _ _ HO).mono ?_); rintro e w6 ⟨rfl, hb⟩; have B6 := Lib.hid (pstep B5.out hb); have P6 := Lib.hid (heap_step P5.out hb); have N6 := Lib.hid (heap_step N5.out hb); clear hb)
    | (refine wpList_load_row_g rfl 25 _ rfl w1.heap.size rfl 25 R' (0, 0) _ P6.out Try.underlying25 rfl (by rw [size_lock, HS'.out]) ?_)
    | (refine wpList_load_row_g rfl 25 _ rfl w3.heap.size rfl 25 R' (0, 0) _ N6.out Try.underlying25 rfl (by rw [size_lock, HS'.out]) ?_)
    | fail)
  go_ret
  exact ⟨rfl, B6.out⟩
theorem ticketSteps_walk (v0 v1 : Value) (w : World) (g0 : ArgLock w v0) (g1 : ArgLop w v1) :
    Calls Try.prog 3 #[v0, v1] w fun e w' => e = .returned (.bool true) ∧ Below w.heap.size w w' := by
  obtain ⟨l, rfl⟩ := g0
  obtain ⟨k, c, rfl⟩ := g1
  obtain ⟨⟨l', t, x⟩, h⟩ : ∃ q, stepT l k c = q := ⟨_, rfl⟩
  exact steps_core l l' k c x t _ _ _ _ (zero_of_info info_lock).1 (Lib.hid rfl) (Lib.hid rfl) (Lib.hid rfl) (Lib.hid h) (Lib.hid rfl) w
end Go.Proofs.Ytfepgebnaglkaaa
