/- The walk of TicketOne. -/
import Derived.Test.YtfepgebnaglkaaaTicO
namespace Go.Proofs.Ytfepgebnaglkaaa
open Go.RowKit

/-- A step in names: either an error, and then nothing else, or none. -/
theorem stepT_split (l : LockT) (k c : Int) : (∃ x, x ≠ 0 ∧ stepT l k c = (lz, false, x)) ∨ (∃ n : Nat, c = n ∧ Rt l ∧ OkT l k n ∧ errT true l k n = 0 ∧ stepT l k c = (newT l k n, inT l k n, 0)) := by
  by_cases he : errT (okT l) l k c = 0
  · right
    have hok : okT l = true := by
      cases e : okT l with
      | true => rfl
      | false => rw [e, errT_no] at he; cases he
    have hr := okT_true.1 hok
    rw [hok] at he
    obtain ⟨n, hc, ho⟩ := errT_zero hr he
    subst hc
    refine ⟨n, rfl, hr, ho, he, ?_⟩
    unfold stepT
    rw [hok, if_pos he, Int.toNat_natCast]
  · left
    exact ⟨_, he, by unfold stepT; rw [if_neg he]⟩
theorem box_cells {w : World} {b : Nat} {R : Array Value} {t : TypeId} (h : w.heap[b]? = some (.cells R t (0, 0))) (i : Nat) (v : Value) (hv : R[i]? = some v) : w.cell? ⟨b, i, none⟩ = some v := by
  rw [cell_of_row _ _ _ _ _ _ h]; exact hv
set_option maxHeartbeats 1000000 in
set_option maxRecDepth 100000 in
theorem one_err (l : LockT) (k c x : Int) (R Z : Array Value) (hz : ∀ w, (zeroValue 25).run Try.prog w = .ok (.agg Z) w) (HZ : Hid (lockRow lz = Z)) (HR : Hid (lockRow l = R)) (hx : (x != 0) = true) (H : Hid (stepT l k c = (lz, false, x))) (w : World) :
    Calls Try.prog 5 #[.agg R, .agg #[.int .i64 k, .int .i64 c]] w fun e w' => e = .returned (.bool true) ∧ Below w.heap.size w w' := by
  have HS : Hid (R.size = 18) := Lib.hid (by rw [← HR.out]; rfl)
  have HZS : Hid (Z.size = 18) := Lib.hid (by rw [← HZ.out]; rfl)
  have HA : Hid (Z.all (·.oneCell') = true) := Lib.hid (by rw [← HZ.out]; exact row_all _)
  have HB : Hid ((Try.prog.built 25 []) = some Z) := Lib.hid (by rw [← HZ.out]; kernel_rfl)
  have hEq := fun w => eq_lock lz Z HZ w
  have B0 := Lib.hid (below_two w (.cells R 25) (.cells #[.int .i64 k, .int .i64 c] 27))
  have R0 := Lib.hid (heap_under w (.cells R 25) (.cells #[.int .i64 k, .int .i64 c] 27))
  have O0 := Lib.hid (heap_alloc2_new w (.cells R 25) (.cells #[.int .i64 k, .int .i64 c] 27))
  go_enter Try.func5, Try.ntmps5
  go_wp2_with (first
    | (go_at_call 17; (with_reducible refine (alive6_R _).mono ?_); rintro e w1 ⟨rfl, hb⟩; have B1 := Lib.hid (pstep B0.out hb); have R1 := Lib.hid (heap_step R0.out hb); have O1 := Lib.hid (heap_step O0.out hb); have G1 := pair_cells O1.out; clear hb)
    | (refine wpList_load_row rfl 25 _ rfl w.heap.size rfl 25 R (0, 0) _ R1.out Try.underlying25 rfl (by rw [size_lock, HS.out]) ?_)
    | (go_at_call 9; (with_reducible refine (step_R l k c R Z false x lz HR HZ H _).mono ?_); rintro e w2 ⟨rfl, hb⟩; have B2 := Lib.hid (pstep B1.out hb); clear hb)
    | (refine wpList_store_row rfl 25 _ _ rfl w2.heap.size Z rfl rfl 25 Z (heap_alloc_new w2 _) (by rw [size_lock, HZS.out]) rfl HA.out ?_; intro w3 hw3; have B3 := Lib.hid ((pstep B2.out (below_alloc w2 _)).trans (hw3.below _ B2.out.size)); have P3 := Lib.hid hw3.put; clear hw3)
    | (refine wpList_load_row rfl 25 _ rfl w2.heap.size rfl 25 Z (0, 0) _ P3.out Try.underlying25 rfl (by rw [size_lock, HZS.out]) ?_)
    | (refine wpList_build_row rfl 25 _ rfl Z HB.out ?_)
    | fail)
  go_ret
  exact ⟨rfl, B3.out⟩
set_option maxHeartbeats 1000000 in
set_option maxRecDepth 100000 in
theorem one_ok (l l' : LockT) (k : Int) (c : Nat) (hc8 : c < 8) (R R' Z : Array Value) (t : Bool) (hz : ∀ w, (zeroValue 25).run Try.prog w = .ok (.agg Z) w) (HZ : Hid (Z.size = 18)) (HR : Hid (lockRow l = R)) (HR' : Hid (lockRow l' = R')) (HT : Hid (Rt l')) (ht : l'.inn c = t) (H : Hid (stepT l k c = (l', t, 0))) (w : World) :
    Calls Try.prog 5 #[.agg R, .agg #[.int .i64 k, .int .i64 c]] w fun e w' => e = .returned (.bool true) ∧ Below w.heap.size w w' := by
  have HS : Hid (R.size = 18) := Lib.hid (by rw [← HR.out]; rfl)
  have HS' : Hid (R'.size = 18) := Lib.hid (by rw [← HR'.out]; rfl)
  have HA : Hid (R'.all (·.oneCell') = true) := Lib.hid (by rw [← HR'.out]; exact row_all _)
  have B0 := Lib.hid (below_two w (.cells R 25) (.cells #[.int .i64 k, .int .i64 c] 27))
  have R0 := Lib.hid (heap_under w (.cells R 25) (.cells #[.int .i64 k, .int .i64 c] 27))
  have O0 := Lib.hid (heap_alloc2_new w (.cells R 25) (.cells #[.int .i64 k, .int .i64 c] 27))
  have q : ∀ i, i < 8 → R'[10 + i]? = some (.bool (l'.inn i)) := fun i hi => by rw [← HR'.out, lockRow_inn _ hi]
  have Q := Lib.hid q
  have QT : Hid (R'[10 + c]? = some (.bool t)) := Lib.hid (by rw [q c hc8, ht])
  clear q ht
  go_enter Try.func5, Try.ntmps5
  go_wp2_with (first
    | (go_at_call 17; (with_reducible refine (alive6_R _).mono ?_); rintro e w1 ⟨rfl, hb⟩; have B1 := Lib.hid (pstep B0.out hb); have R1 := Lib.hid (heap_step R0.out hb); have O1 := Lib.hid (heap_step O0.out hb); have G1 := pair_cells O1.out; clear hb)
    | (refine wpList_load_row rfl 25 _ rfl w.heap.size rfl 25 R (0, 0) _ R1.out Try.underlying25 rfl (by rw [size_lock, HS.out]) ?_)
    | (go_at_call 9; (with_reducible refine (step_R l k c R R' t 0 l' HR HR' H _).mono ?_); rintro e w2 ⟨rfl, hb⟩; have B2 := Lib.hid (pstep B1.out hb); have O2 := Lib.hid (heap_step O1.out hb); clear hb)
    | (refine wpList_store_row rfl 25 _ _ rfl w2.heap.size R' rfl rfl 25 Z (heap_alloc_new w2 _) (by rw [size_lock, HS'.out]) (by rw [HS'.out, HZ.out]) HA.out ?_; intro w3 hw3; have B3 := Lib.hid ((pstep B2.out (below_alloc w2 _)).trans (hw3.below _ B2.out.size)); have O3 := Lib.hid (heap_step O2.out ((below_alloc w2 _).trans (hw3.below _ (Nat.le_refl _)))); have P3 := Lib.hid hw3.put; have G3 := pair_cells O3.out; have C0 := box_cells P3.out 10 _ (Q.out 0 (by decide)); have C1 := box_cells P3.out 11 _ (Q.out 1 (by decide)); have C2 := box_cells P3.out 12 _ (Q.out 2 (by decide)); have C3 := box_cells P3.out 13 _ (Q.out 3 (by decide)); have C4 := box_cells P3.out 14 _ (Q.out 4 (by decide)); have C5 := box_cells P3.out 15 _ (Q.out 5 (by decide)); have C6 := box_cells P3.out 16 _ (Q.out 6 (by decide)); have C7 := box_cells P3.out 17 _ (Q.out 7 (by decide)); clear hw3)
    | fail)
  clear C0 C1 C2 C3 C4 C5 C6 C7 G1 G3
  go_loop [8, 31] (fun n i => ∃ k : Nat, k ≤ 8 ∧ i = .int .i64 k ∧ n = .int .i64 (inCnt l'.inn k : Nat)) (fun _ i => 8 - (intOf i).toNat)
  case atStart => exact ⟨0, by omega, rfl, rfl⟩
  case round =>
    obtain ⟨j, hj, rfl, rfl⟩ := hrel
    have hle : inCnt l'.inn j ≤ j := by
      clear hj
      induction j with
      | zero => exact Nat.le_refl _
      | succ j ih => rw [inCnt]; split <;> omega
    obtain ⟨m, hm⟩ : ∃ m, inCnt l'.inn j = m := ⟨_, rfl⟩
    have HM := Lib.hid hm
    rw [hm] at hle ⊢
    clear hm
    by_cases hlt : j < 8
    · have hidx := fun w => idx_bools l'.inn j hlt w
      obtain ⟨u, hu⟩ : ∃ u, l'.inn j = u := ⟨_, rfl⟩
      rw [hu] at hidx
      have HU := Lib.hid hu
      clear hu
      cases u with
      | true =>
        go_wp2_with fail
        go_round
        case rel => exact ⟨j + 1, by omega, by go_num, by rw [inCnt, HM.out, if_pos HU.out]; go_num⟩
        case measure => simp [intOf]; omega
      | false =>
        go_wp2_with fail
        go_round
        case rel => exact ⟨j + 1, by omega, by go_num, by rw [inCnt, HM.out, if_neg (by rw [HU.out]; decide)]; go_num⟩
        case measure => simp [intOf]; omega
    · obtain rfl : j = 8 := by omega
      have h1 : (m : Int) ≤ 1 := by
        have := (inCnt_one (f := l'.inn) (k := 8) fun c d hc hd h1 h2 => HT.out.one_in hc hd h1 h2).1
        rw [HM.out] at this
        omega
      have hn' : (c : Int) < 8 := by omega
      go_wp2_with (first
        | (refine wpList_load_row_g rfl 25 _ rfl w2.heap.size rfl 25 R' (0, 0) _ P3.out Try.underlying25 rfl (by rw [size_lock, HS'.out]) ?_)
        | (go_at_call 12; (with_reducible refine (right_Y l' R' HR' _ true (Lib.hid (okT_true.2 HT.out))).mono ?_); rintro e w4 ⟨rfl, hb⟩; have B4 := Lib.hid (pstep B3.out hb); have O4 := Lib.hid (heap_step O3.out hb); have P4 := Lib.hid (heap_step P3.out hb); have G4 := pair_cells O4.out; have T4 := box_cells P4.out _ _ QT.out; clear hb)
        | fail)
      go_ret
      exact ⟨by simp, B4.out⟩
theorem ticketOne_walk (v0 v1 : Value) (w : World) (g0 : ArgLock w v0) (g1 : ArgLop w v1) :
    Calls Try.prog 5 #[v0, v1] w fun e w' => e = .returned (.bool true) ∧ Below w.heap.size w w' := by
  obtain ⟨l, rfl⟩ := g0
  obtain ⟨k, c, rfl⟩ := g1
  rcases stepT_split l k c with ⟨x, hx, H⟩ | ⟨n, rfl, hr, ho, he, H⟩
  · exact one_err l k c x _ _ (zero_of_info info_lock).1 (Lib.hid rfl) (Lib.hid rfl) (by simpa using hx) (Lib.hid H) w
  · exact one_ok l _ k n ho.1 _ _ _ _ (zero_of_info info_lock).1 (Lib.hid rfl) (Lib.hid rfl) (Lib.hid rfl) (Lib.hid (hr.step ho)) rfl (Lib.hid H) w
end Go.Proofs.Ytfepgebnaglkaaa
