/- The walk of TicketStill. -/
import Derived.Test.YtfepgebnaglkaaaTOne
namespace Go.Proofs.Ytfepgebnaglkaaa
open Go.RowKit

set_option maxHeartbeats 1000000 in
set_option maxRecDepth 100000 in
theorem still_in (l l' : LockT) (c : Nat) (R R' Z : Array Value) (hz : ∀ w, (zeroValue 25).run Try.prog w = .ok (.agg Z) w) (HZ : Hid (Z.size = 18)) (HR : Hid (lockRow l = R)) (HR' : Hid (lockRow l' = R')) (nx n : Int)
    (Q0 : Hid (R[0]? = some (.int .i64 nx))) (Q1 : Hid (R[1]? = some (.int .i64 n))) (Q0' : Hid (R'[0]? = some (.int .i64 nx))) (Q1' : Hid (R'[1]? = some (.int .i64 n)))
    (QM : Hid (∀ i, i < 8 → R[2 + i]? = some (.int .i64 (l.mine i)))) (QM' : Hid (∀ i, i < 8 → R'[2 + i]? = some (.int .i64 (l.mine i))))
    (H : Hid (stepT l 2 c = (l', true, 0))) (H' : Hid (stepT l' 2 c = (l', true, 0))) (w : World) :
    Calls Try.prog 8 #[.agg R, .int .i64 c] w fun e w' => e = .returned (.bool true) ∧ Below w.heap.size w w' := by
  have HS : Hid (R.size = 18) := Lib.hid (by rw [← HR.out]; rfl)
  have HS' : Hid (R'.size = 18) := Lib.hid (by rw [← HR'.out]; rfl)
  have HA : Hid (R'.all (·.oneCell') = true) := Lib.hid (by rw [← HR'.out]; exact row_all _)
  have hEq := fun w => eq_lock l' R' HR' w
  have hEq8 := fun w => eq_ints8 l.mine w
  have B0 := Lib.hid (below_alloc w (.cells R 25))
  have R0 := Lib.hid (heap_alloc_new w (.cells R 25))
  go_enter Try.func8, Try.ntmps8
  go_wp2_with (first
    | (go_at_call 17; (with_reducible refine (alive6_R _).mono ?_); rintro e w1 ⟨rfl, hb⟩; have B1 := Lib.hid (pstep B0.out hb); have R1 := Lib.hid (heap_step R0.out hb); clear hb)
    | (refine wpList_load_row rfl 25 _ rfl w.heap.size rfl 25 R (0, 0) _ R1.out Try.underlying25 rfl (by rw [size_lock, HS.out]) ?_)
    | (go_at_call 9; (with_reducible refine (step_R l 2 c R R' true 0 l' HR HR' H _).mono ?_); rintro e w2 ⟨rfl, hb⟩; have B2 := Lib.hid (pstep B1.out hb); have R2 := Lib.hid (heap_step R1.out hb); clear hb)
    | (refine wpList_store_row rfl 25 _ _ rfl w2.heap.size R' rfl rfl 25 Z (heap_alloc_new w2 _) (by rw [size_lock, HS'.out]) (by rw [HS'.out, HZ.out]) HA.out ?_; intro w3 hw3; have C3 := Lib.hid ((below_alloc w2 (.cells Z 25)).trans (hw3.below _ (Nat.le_refl _))); have B3 := Lib.hid (pstep B2.out C3.out); have R3 := Lib.hid (heap_step R2.out C3.out); have P3 := Lib.hid hw3.put; clear hw3)
    | (refine wpList_load_row rfl 25 _ rfl w2.heap.size rfl 25 R' (0, 0) _ P3.out Try.underlying25 rfl (by rw [size_lock, HS'.out]) ?_)
    | (go_at_call 9; (with_reducible refine (step_R l' 2 c R' R' true 0 l' HR' HR' H' _).mono ?_); rintro e w4 ⟨rfl, hb⟩; have B4 := Lib.hid (pstep B3.out hb); have R4 := Lib.hid (heap_step R3.out hb); have P4 := Lib.hid (heap_step P3.out hb); clear hb)
    | (refine wpList_store_row rfl 25 _ _ rfl w4.heap.size R' rfl rfl 25 Z (heap_alloc_new w4 _) (by rw [size_lock, HS'.out]) (by rw [HS'.out, HZ.out]) HA.out ?_; intro w5 hw5; have C5 := Lib.hid ((below_alloc w4 (.cells Z 25)).trans (hw5.below _ (Nat.le_refl _))); have B5 := Lib.hid (pstep B4.out C5.out); have R5 := Lib.hid (heap_step R4.out C5.out); have P5 := Lib.hid (heap_step P4.out C5.out); have N5 := Lib.hid hw5.put; have X0 := box_cells R5.out 0 _ Q0.out; have X1 := box_cells R5.out 1 _ Q1.out; have X2 := box_cells R5.out 2 _ (QM.out 0 (by decide)); have X3 := box_cells R5.out 3 _ (QM.out 1 (by decide)); have X4 := box_cells R5.out 4 _ (QM.out 2 (by decide)); have X5 := box_cells R5.out 5 _ (QM.out 3 (by decide)); have X6 := box_cells R5.out 6 _ (QM.out 4 (by decide)); have X7 := box_cells R5.out 7 _ (QM.out 5 (by decide)); have X8 := box_cells R5.out 8 _ (QM.out 6 (by decide)); have X9 := box_cells R5.out 9 _ (QM.out 7 (by decide)); have Y0 := box_cells P5.out 0 _ Q0'.out; have Y1 := box_cells P5.out 1 _ Q1'.out; have Y2 := box_cells P5.out 2 _ (QM'.out 0 (by decide)); have Y3 := box_cells P5.out 3 _ (QM'.out 1 (by decide)); have Y4 := box_cells P5.out 4 _ (QM'.out 2 (by decide)); have Y5 := box_cells P5.out 5 _ (QM'.out 3 (by decide)); have Y6 := box_cells P5.out 6 _ (QM'.out 4 (by decide)); have Y7 := box_cells P5.out 7 _ (QM'.out 5 (by decide)); have Y8 := box_cells P5.out 8 _ (QM'.out 6 (by decide)); have Y9 := box_cells P5.out 9 _ (QM'.out 7 (by decide)); clear hw5)
    | (refine wpList_load_row_g rfl 25 _ rfl w4.heap.size rfl 25 R' (0, 0) _ N5.out Try.underlying25 rfl (by rw [size_lock, HS'.out]) ?_)
    | (refine wpList_load_row_g rfl 25 _ rfl w2.heap.size rfl 25 R' (0, 0) _ P5.out Try.underlying25 rfl (by rw [size_lock, HS'.out]) ?_)
    | (refine wpList_load_row_g rfl 25 _ rfl w.heap.size rfl 25 R (0, 0) _ R5.out Try.underlying25 rfl (by rw [size_lock, HS.out]) ?_)
    | fail)
  go_ret
  exact ⟨rfl, B5.out⟩
set_option maxHeartbeats 1000000 in
set_option maxRecDepth 100000 in
theorem still_out (l l' : LockT) (c : Nat) (R Z : Array Value) (hz : ∀ w, (zeroValue 25).run Try.prog w = .ok (.agg Z) w) (HZ : Hid (Z.size = 18)) (HR : Hid (lockRow l = R)) (HR' : Hid (lockRow l' = R)) (nx n : Int)
    (Q0 : Hid (R[0]? = some (.int .i64 nx))) (Q1 : Hid (R[1]? = some (.int .i64 n))) (Q0' : Hid (R[0]? = some (.int .i64 nx))) (Q1' : Hid (R[1]? = some (.int .i64 n)))
    (QM : Hid (∀ i, i < 8 → R[2 + i]? = some (.int .i64 (l.mine i)))) (QM' : Hid (∀ i, i < 8 → R[2 + i]? = some (.int .i64 (l.mine i))))
    (H : Hid (stepT l 2 c = (l', false, 0))) (H' : Hid (stepT l' 2 c = (l', false, 0))) (w : World) :
    Calls Try.prog 8 #[.agg R, .int .i64 c] w fun e w' => e = .returned (.bool true) ∧ Below w.heap.size w w' := by
  have HS' : Hid (R.size = 18) := Lib.hid (by rw [← HR'.out]; rfl)
  have HA : Hid (R.all (·.oneCell') = true) := Lib.hid (by rw [← HR'.out]; exact row_all _)
  have hEq := fun w => eq_lock l' R HR' w
  have hEq8 := fun w => eq_ints8 l.mine w
  have B0 := Lib.hid (below_alloc w (.cells R 25))
  have R0 := Lib.hid (heap_alloc_new w (.cells R 25))
  go_enter Try.func8, Try.ntmps8
  go_wp2_with (first
    | (go_at_call 17; (with_reducible refine (alive6_R _).mono ?_); rintro e w1 ⟨rfl, hb⟩; have B1 := Lib.hid (pstep B0.out hb); have R1 := Lib.hid (heap_step R0.out hb); clear hb)
    | (refine wpList_load_row rfl 25 _ rfl w.heap.size rfl 25 R (0, 0) _ R1.out Try.underlying25 rfl (by rw [size_lock, HS'.out]) ?_)
    | (go_at_call 9; (with_reducible refine (step_R l 2 c R R false 0 l' HR HR' H _).mono ?_); rintro e w2 ⟨rfl, hb⟩; have B2 := Lib.hid (pstep B1.out hb); have R2 := Lib.hid (heap_step R1.out hb); clear hb)
    | (refine wpList_store_row rfl 25 _ _ rfl w2.heap.size R rfl rfl 25 Z (heap_alloc_new w2 _) (by rw [size_lock, HS'.out]) (by rw [HS'.out, HZ.out]) HA.out ?_; intro w3 hw3; have C3 := Lib.hid ((below_alloc w2 (.cells Z 25)).trans (hw3.below _ (Nat.le_refl _))); have B3 := Lib.hid (pstep B2.out C3.out); have R3 := Lib.hid (heap_step R2.out C3.out); have P3 := Lib.hid hw3.put; clear hw3)
    | (refine wpList_load_row rfl 25 _ rfl w2.heap.size rfl 25 R (0, 0) _ P3.out Try.underlying25 rfl (by rw [size_lock, HS'.out]) ?_)
    | (go_at_call 9; (with_reducible refine (step_R l' 2 c R R false 0 l' HR' HR' H' _).mono ?_); rintro e w4 ⟨rfl, hb⟩; have B4 := Lib.hid (pstep B3.out hb); have R4 := Lib.hid (heap_step R3.out hb); have P4 := Lib.hid (heap_step P3.out hb); clear hb)
    | (refine wpList_store_row rfl 25 _ _ rfl w4.heap.size R rfl rfl 25 Z (heap_alloc_new w4 _) (by rw [size_lock, HS'.out]) (by rw [HS'.out, HZ.out]) HA.out ?_; intro w5 hw5; have C5 := Lib.hid ((below_alloc w4 (.cells Z 25)).trans (hw5.below _ (Nat.le_refl _))); have B5 := Lib.hid (pstep B4.out C5.out); have R5 := Lib.hid (heap_step R4.out C5.out); have P5 := Lib.hid (heap_step P4.out C5.out); have N5 := Lib.hid hw5.put; have X0 := box_cells R5.out 0 _ Q0.out; have X1 := box_cells R5.out 1 _ Q1.out; have X2 := box_cells R5.out 2 _ (QM.out 0 (by decide)); have X3 := box_cells R5.out 3 _ (QM.out 1 (by decide)); have X4 := box_cells R5.out 4 _ (QM.out 2 (by decide)); have X5 := box_cells R5.out 5 _ (QM.out 3 (by decide)); have X6 := box_cells R5.out 6 _ (QM.out 4 (by decide)); have X7 := box_cells R5.out 7 _ (QM.out 5 (by decide)); have X8 := box_cells R5.out 8 _ (QM.out 6 (by decide)); have X9 := box_cells R5.out 9 _ (QM.out 7 (by decide)); have Y0 := box_cells P5.out 0 _ Q0'.out; have Y1 := box_cells P5.out 1 _ Q1'.out; have Y2 := box_cells P5.out 2 _ (QM'.out 0 (by decide)); have Y3 := box_cells P5.out 3 _ (QM'.out 1 (by decide)); have Y4 := box_cells P5.out 4 _ (QM'.out 2 (by decide)); have Y5 := box_cells P5.out 5 _ (QM'.out 3 (by decide)); have Y6 := box_cells P5.out 6 _ (QM'.out 4 (by decide)); have Y7 := box_cells P5.out 7 _ (QM'.out 5 (by decide)); have Y8 := box_cells P5.out 8 _ (QM'.out 6 (by decide)); have Y9 := box_cells P5.out 9 _ (QM'.out 7 (by decide)); clear hw5)
    | (refine wpList_load_row_g rfl 25 _ rfl w4.heap.size rfl 25 R (0, 0) _ N5.out Try.underlying25 rfl (by rw [size_lock, HS'.out]) ?_)
    | (refine wpList_load_row_g rfl 25 _ rfl w2.heap.size rfl 25 R (0, 0) _ P5.out Try.underlying25 rfl (by rw [size_lock, HS'.out]) ?_)
    | (refine wpList_load_row_g rfl 25 _ rfl w.heap.size rfl 25 R (0, 0) _ R5.out Try.underlying25 rfl (by rw [size_lock, HS'.out]) ?_)
    | fail)
  go_ret
  exact ⟨rfl, B5.out⟩
set_option maxHeartbeats 1000000 in
set_option maxRecDepth 100000 in
theorem still_err (l : LockT) (c x : Int) (R Z : Array Value) (hz : ∀ w, (zeroValue 25).run Try.prog w = .ok (.agg Z) w) (HZ : Hid (lockRow lz = Z)) (HR : Hid (lockRow l = R)) (hx : (x != 0) = true) (H : Hid (stepT l 2 c = (lz, false, x))) (w : World) :
    Calls Try.prog 8 #[.agg R, .int .i64 c] w fun e w' => e = .returned (.bool true) ∧ Below w.heap.size w w' := by
  have HS : Hid (R.size = 18) := Lib.hid (by rw [← HR.out]; rfl)
  have HZS : Hid (Z.size = 18) := Lib.hid (by rw [← HZ.out]; rfl)
  have HA : Hid (Z.all (·.oneCell') = true) := Lib.hid (by rw [← HZ.out]; exact row_all _)
  have B0 := Lib.hid (below_alloc w (.cells R 25))
  have R0 := Lib.hid (heap_alloc_new w (.cells R 25))
  go_enter Try.func8, Try.ntmps8
  go_wp2_with (first
    | (go_at_call 17; (with_reducible refine (alive6_R _).mono ?_); rintro e w1 ⟨rfl, hb⟩; have B1 := Lib.hid (pstep B0.out hb); have R1 := Lib.hid (heap_step R0.out hb); clear hb)
    | (refine wpList_load_row rfl 25 _ rfl w.heap.size rfl 25 R (0, 0) _ R1.out Try.underlying25 rfl (by rw [size_lock, HS.out]) ?_)
    | (go_at_call 9; (with_reducible refine (step_R l 2 c R Z false x lz HR HZ H _).mono ?_); rintro e w2 ⟨rfl, hb⟩; have B2 := Lib.hid (pstep B1.out hb); clear hb)
    | (refine wpList_store_row rfl 25 _ _ rfl w2.heap.size Z rfl rfl 25 Z (heap_alloc_new w2 _) (by rw [size_lock, HZS.out]) rfl HA.out ?_; intro w3 hw3; have B3 := Lib.hid ((pstep B2.out (below_alloc w2 _)).trans (hw3.below _ B2.out.size)); clear hw3)
    | fail)
  go_ret
  exact ⟨rfl, B3.out⟩
theorem ticketStill_walk (v0 v1 : Value) (w : World) (g0 : ArgLock w v0) (g1 : ArgInt w v1) :
    Calls Try.prog 8 #[v0, v1] w fun e w' => e = .returned (.bool true) ∧ Below w.heap.size w w' := by
  obtain ⟨l, rfl⟩ := g0
  obtain ⟨c, rfl⟩ := g1
  rcases stepT_split l 2 c with ⟨x, hx, H⟩ | ⟨n, rfl, hr, ho, he, H⟩
  · exact still_err l c x _ _ (zero_of_info info_lock).1 (Lib.hid rfl) (Lib.hid rfl) (by simpa using hx) (Lib.hid H) w
  · obtain ⟨hn, ⟨h, _⟩ | ⟨_, hm⟩ | ⟨h, _⟩⟩ := ho
    · cases h
    · have hr' : Rt (newT l 2 n) := hr.step ⟨hn, Or.inr (Or.inl ⟨rfl, hm⟩)⟩
      have H' : stepT (newT l 2 n) 2 n = (newT l 2 n, inT l 2 n, 0) := by
        rcases stepT_split (newT l 2 n) 2 n with ⟨x, hx, e⟩ | ⟨m, hm2, _, _, _, e⟩
        · exfalso
          have : errT (okT (newT l 2 n)) (newT l 2 n) 2 n = 0 := by
            rw [okT_true.2 hr', errT_look hn, new_look]
            simp only
            rw [if_neg hm]
          unfold stepT at e
          rw [if_pos this] at e
          simp only [Prod.mk.injEq] at e
          exact hx e.2.2.symm
        · obtain rfl : n = m := by omega
          rw [e, look_again, in_look, in_look, new_look]
      have nn : (newT l 2 n).next = l.next := by rw [new_look]
      have nw : (newT l 2 n).now = l.now := by rw [new_look]
      have nm : (newT l 2 n).mine = l.mine := by rw [new_look]
      have q0 : (lockRow (newT l 2 n))[0]? = some (.int .i64 l.next) := by rw [lockRow_next, nn]
      have q1 : (lockRow (newT l 2 n))[1]? = some (.int .i64 l.now) := by rw [lockRow_now, nw]
      have qm : ∀ i, i < 8 → (lockRow (newT l 2 n))[2 + i]? = some (.int .i64 (l.mine i)) := fun i hi => by rw [lockRow_mine _ hi, nm]
      obtain ⟨t, ht⟩ : ∃ t, inT l 2 n = t := ⟨_, rfl⟩
      rw [ht] at H H'
      cases t with
      | true =>
        exact still_in l _ n _ _ _ (zero_of_info info_lock).1 (Lib.hid rfl) (Lib.hid rfl) (Lib.hid rfl) l.next l.now (Lib.hid rfl) (Lib.hid rfl) (Lib.hid q0) (Lib.hid q1) (Lib.hid fun i hi => lockRow_mine l hi) (Lib.hid qm) (Lib.hid H) (Lib.hid H') w
      | false =>
        have hne : ¬ l.mine n = l.now := by rw [in_look] at ht; exact of_decide_eq_false ht
        have e := look_out hr hn hne
        exact still_out l _ n _ _ (zero_of_info info_lock).1 (Lib.hid rfl) (Lib.hid rfl) (Lib.hid (by rw [e])) l.next l.now (Lib.hid rfl) (Lib.hid rfl) (Lib.hid rfl) (Lib.hid rfl) (Lib.hid fun i hi => lockRow_mine l hi) (Lib.hid fun i hi => lockRow_mine l hi) (Lib.hid H) (Lib.hid H') w
    · cases h
end Go.Proofs.Ytfepgebnaglkaaa
