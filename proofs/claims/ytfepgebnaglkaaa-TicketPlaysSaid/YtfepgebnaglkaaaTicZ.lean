/- The walk of ticket.Step, with no error; Step for every lock and operation. -/
import Derived.Test.YtfepgebnaglkaaaTicY
namespace Go.Proofs.Ytfepgebnaglkaaa
open Go.RowKit

/-- What is held while the answer is laid. -/
structure Ans (w wx : World) (blk : Nat) (R' : Array Value) (k c : Int) : Prop where
  b : Below w.heap.size w wx
  r : wx.heap[blk]? = some (.cells R' 25 (0, 0))
  o : wx.heap[w.heap.size + 1]? = some (.cells #[.int .i64 k, .int .i64 c] 27 (0, 0))
  z : ∃ C : Array Value, C.size = 18 ∧ wx.heap[w.heap.size + 1 + 1]? = some (.cells C 25 (0, 0))
theorem Ans.drew {w wx : World} {blk : Nat} {R' : Array Value} {k c : Int} (h : Ans w wx blk R' k c) : Ans w wx.drew blk R' k c := ⟨h.b.drew, h.r, h.o, h.z⟩
set_option maxHeartbeats 1000000 in
set_option maxRecDepth 100000 in
theorem step_ok (l : LockT) (k c : Int) (n : Nat) (hc : Hid ((n : Int) = c)) (hn : n < 8) (R R' Z : Array Value) (t : Bool) (hz : ∀ w, (zeroValue 25).run Try.prog w = .ok (.agg Z) w) (HZ : Hid (Z.size = 18)) (HR : Hid (lockRow l = R)) (HR' : Hid (lockRow (newT l k n) = R')) (ht : Hid (inT l k n = t)) (w : World)
    (ho : Hid (okT l = true)) (hr : Hid (Rt l)) (hop : Hid (OkT l k n)) (he : Hid (errT true l k c = 0)) :
    Calls Try.prog 9 #[.agg R, .agg #[.int .i64 k, .int .i64 c]] w fun e w' => e = .returned (.tuple #[.agg R', .bool t, .int .i64 0]) ∧ Below w.heap.size w w' := by
  have S0 := Lib.hid (sb_new w R Z k c)
  have HS : Hid (R.size = 18) := Lib.hid (by rw [← HR.out]; rfl)
  have HS' : Hid (R'.size = 18) := Lib.hid (by rw [← HR'.out]; rfl)
  have HA : Hid (R'.all (·.oneCell') = true) := Lib.hid (by rw [← HR'.out]; exact row_all _)
  have qi : R'[10 + n]? = some (.bool t) := by rw [← HR'.out, lockRow_inn _ hn, ← ht.out]; rfl
  have hc' := hc.out
  subst hc'
  clear hc
  have hn' : (n : Int) < 8 := by omega
  go_enter Try.func9, Try.ntmps9
  go_wp2_with (first
    | (refine wpList_load_row rfl 25 _ rfl w.heap.size rfl 25 R (0, 0) _ S0.out.r Try.underlying25 rfl (by rw [size_lock, HS.out]) ?_)
    | (refine wpList_load_row rfl 25 _ rfl w.heap.size rfl 25 R (0, 0) _ S1.out.r Try.underlying25 rfl (by rw [size_lock, HS.out]) ?_)
    | (refine wpList_load_row rfl 25 _ rfl w.heap.size rfl 25 R (0, 0) _ S2.out.r Try.underlying25 rfl (by rw [size_lock, HS.out]) ?_)
    | (refine wpList_store_row rfl 25 _ _ rfl w3.heap.size R' rfl rfl 25 Z (heap_alloc_new w3 _) (by rw [size_lock, HS'.out]) (by rw [HS'.out, HZ.out]) HA.out ?_; intro w4 hw4; have S4 := Lib.hid (S3.out.step ((below_alloc w3 _).trans (hw4.below _ (Nat.le_refl _)))); have P4 := Lib.hid hw4.put; have G4 := S4.out.ops; have L4 := S4.out.lt; clear hw4)
    | (go_at_call 12; (with_reducible refine (right_Y l R HR _ true ho).mono ?_); rintro e w1 ⟨rfl, hb⟩; have S1 := Lib.hid (S0.out.step hb); have G1 := S1.out.ops; clear hb)
    | (go_at_call 18; (with_reducible refine (check_R l k n 0 R HR _ he).mono ?_); rintro e w2 ⟨rfl, hb⟩; have S2 := Lib.hid (S1.out.step hb); have G2 := S2.out.ops; clear hb)
    | (go_at_call 19; (with_reducible refine (perform_Y l k n n (Lib.hid rfl) R R' HR HR' hr hop _).mono ?_); rintro e w3 ⟨rfl, hb⟩; have S3 := Lib.hid (S2.out.step hb); have L3 := S3.out.lt; clear hb)
    | fail)
  have A4 : Ans w w4 w3.heap.size R' k n := ⟨S4.out.b, P4.out, S4.out.o, Z, HZ.out, S4.out.z⟩
  have H3 := Lib.hid L3
  clear S0 S1 S2 S3 S4 P4 G1 G2 G4 L3 L4
  refine wp_region_noPanic ?_
  refine wp_region_held_drew (S := fun w' => Ans w w' w3.heap.size R' k n) (by kernel_rfl) A4.drew (fun hHeld => ?_)
  refine wpAnyH_take (i := 0) (v := .agg R') rfl (by kernel_rfl) (by kernel_rfl) (by kernel_rfl) (fun _ _ _ h => h) (yieldsIf_load_row rfl 25 _ rfl (w3.heap.size) rfl 25 R' (0, 0) _ (fun _ h => h.r) Try.underlying25 rfl (by rw [size_lock, HS'.out])) (by assumption) ?_
  simp only [List.getElem_toArray, List.getElem_cons_zero, Act.put, List.setIfInBounds_toArray, List.set_cons_zero, List.set_cons_succ]
  refine wpAnyH_take (i := 1) (v := ?_) rfl (by kernel_rfl) (by kernel_rfl) (by kernel_rfl) (fun _ _ _ h => h) (Or.inl ⟨by rfl, ?_⟩) (by assumption) ?_
  rotate_left
  · (intro w hSw; skip; go_simp; try with_reducible rfl)
  simp only [List.getElem_toArray, List.getElem_cons_zero, List.getElem_cons_succ, Act.put, List.setIfInBounds_toArray, List.set_cons_zero, List.set_cons_succ]
  refine wpAnyH_take (i := 2) (v := .int .i64 (n : Int)) rfl (by kernel_rfl) (by kernel_rfl) (by kernel_rfl) (fun _ _ _ h => h) (Or.inl ⟨by rfl, ?_⟩) (by assumption) ?_
  · intro wy hSw
    have e0 : wy.cell? ⟨w.heap.size + 1, 1, none⟩ = some (.int .i64 (n : Int)) := by rw [cell_of_row _ _ _ _ _ _ hSw.o]; rfl
    go_simp
  simp only [List.getElem_toArray, List.getElem_cons_zero, List.getElem_cons_succ, Act.put, List.setIfInBounds_toArray, List.set_cons_zero, List.set_cons_succ]
  refine wpAnyH_take (i := 3) (v := ?_) rfl (by kernel_rfl) (by kernel_rfl) (by kernel_rfl) (fun _ _ _ h => h) (Or.inl ⟨by rfl, ?_⟩) (by assumption) ?_
  rotate_left
  · (intro w hSw; skip; go_simp; try with_reducible rfl)
  simp only [List.getElem_toArray, List.getElem_cons_zero, List.getElem_cons_succ, Act.put, List.setIfInBounds_toArray, List.set_cons_zero, List.set_cons_succ]
  refine wpAnyH_take (i := 4) (v := ?_) rfl (by kernel_rfl) (by kernel_rfl) (by kernel_rfl) (fun _ _ _ h => h) (Or.inl ⟨by rfl, ?_⟩) (by assumption) ?_
  rotate_left
  · (intro w hSw; skip; go_simp; try with_reducible rfl)
  simp only [List.getElem_toArray, List.getElem_cons_zero, List.getElem_cons_succ, Act.put, List.setIfInBounds_toArray, List.set_cons_zero, List.set_cons_succ]
  refine wpAnyH_take (i := 5) (v := .bool t) rfl (by kernel_rfl) (by kernel_rfl) (by kernel_rfl) (fun _ _ _ h => h) (Or.inl ⟨by rfl, ?_⟩) (by assumption) ?_
  · intro wy hSw
    have e0 : wy.cell? ⟨w3.heap.size, 10 + n, none⟩ = some (.bool t) := by rw [cell_of_row _ _ _ _ _ _ hSw.r]; exact qi
    go_simp
  simp only [List.getElem_toArray, List.getElem_cons_zero, List.getElem_cons_succ, Act.put, List.setIfInBounds_toArray, List.set_cons_zero, List.set_cons_succ]
  refine wpAnyH_ready (rs := [6]) (by kernel_rfl) (by simp) ?_
  refine AllReadyH.cons rfl (fun K hK => ?_) AllReadyH.nil
  rw [if_pos (by rfl)]
  obtain ⟨C, hC, hCz⟩ := hHeld.z
  refine wp_store_row 25 _ _ rfl (w.heap.size + 1 + 1) R' rfl rfl 25 C hCz (by rw [size_lock, HS'.out]) (by rw [HS'.out, hC]) HA.out ?_
  have hw5 := setR_row w4.drew (w.heap.size + 1 + 1) C R' 25 hCz
  generalize w4.drew.setRow (w.heap.size + 1 + 1) R' = w5 at hw5 ⊢
  have A5 : Ans w w5 w3.heap.size R' k n := ⟨hHeld.b.trans (hw5.below _ (by omega)), (hw5.other _ (by have := H3.out; omega)).trans hHeld.r, (hw5.other _ (by omega)).trans hHeld.o, R', HS'.out, hw5.put⟩
  have P5 := Lib.hid hw5.put
  refine hK.out _ _ A5 (fun hHeld => ?_)
  simp only [List.getElem_toArray, List.getElem_cons_zero, List.getElem_cons_succ, Act.put]
  refine wpAnyH_take (i := 7) (v := ?_) rfl (by kernel_rfl) (by kernel_rfl) (by kernel_rfl) (fun _ _ _ h => h) (Or.inl ⟨by rfl, ?_⟩) (by assumption) ?_
  rotate_left
  · (intro w hSw; skip; go_simp; try with_reducible rfl)
  simp only [List.getElem_toArray, List.getElem_cons_zero, List.getElem_cons_succ, Act.put, List.setIfInBounds_toArray, List.set_cons_zero, List.set_cons_succ]
  refine wpAnyH_take (i := 8) (v := ?_) rfl (by kernel_rfl) (by kernel_rfl) (by kernel_rfl) (fun _ _ _ h => h) (Or.inl ⟨by rfl, ?_⟩) (by assumption) ?_
  rotate_left
  · (intro w hSw; skip; go_simp; try with_reducible rfl)
  simp only [List.getElem_toArray, List.getElem_cons_zero, List.getElem_cons_succ, Act.put, List.setIfInBounds_toArray, List.set_cons_zero, List.set_cons_succ]
  refine wpAnyH_done (by kernel_rfl) ?_ _
  refine NoPanic.normal ?_
  go_wp2_with fail
  refine bodyPost_ret (results_row_tmp2 rfl _ _ (w.heap.size + 1 + 1) 25 R' (0, 0) _ rfl P5.out Try.underlying25 rfl (by rw [size_lock, HS'.out])) rfl ⟨rfl, A5.b⟩
set_option maxHeartbeats 1000000 in
set_option maxRecDepth 100000 in
theorem step_form (l : LockT) (k c : Int) (R Z : Array Value) (hz : ∀ w, (zeroValue 25).run Try.prog w = .ok (.agg Z) w) (HZ : Hid (Z = lockRow lz)) (HR : Hid (lockRow l = R)) (w : World) (ho : Hid (okT l = false)) :
    Calls Try.prog 9 #[.agg R, .agg #[.int .i64 k, .int .i64 c]] w fun e w' => e = .returned (.tuple #[.agg Z, .bool false, .int .i64 1]) ∧ Below w.heap.size w w' := by
  have S0 := Lib.hid (sb_new w R Z k c)
  have HS : Hid (R.size = 18) := Lib.hid (by rw [← HR.out]; rfl)
  have HZS : Hid (Z.size = 18) := Lib.hid (by rw [HZ.out]; rfl)
  have HA : Hid (Z.all (·.oneCell') = true) := Lib.hid (by rw [HZ.out]; exact row_all _)
  have HB : Hid ((Try.prog.built 25 []) = some Z) := Lib.hid (by rw [HZ.out]; kernel_rfl)
  go_enter Try.func9, Try.ntmps9
  go_wp2_with (first
    | (refine wpList_load_row rfl 25 _ rfl w.heap.size rfl 25 R (0, 0) _ S0.out.r Try.underlying25 rfl (by rw [size_lock, HS.out]) ?_)
    | (refine wpList_build_row rfl 25 _ rfl Z HB.out ?_)
    | (refine wpList_store_row rfl 25 _ _ rfl (w.heap.size + 1 + 1) Z rfl rfl 25 Z S1.out.z (by rw [size_lock, HZS.out]) rfl HA.out ?_; intro w4 hw4)
    | (go_at_call 12; (with_reducible refine (right_Y l R HR _ false ho).mono ?_); rintro e w1 ⟨rfl, hb⟩; have S1 := Lib.hid (S0.out.step hb); clear hb)
    | fail)
  refine bodyPost_ret (results_row_tmp2 rfl _ _ (w.heap.size + 1 + 1) 25 Z (0, 0) _ rfl hw4.put Try.underlying25 rfl (by rw [size_lock, HZS.out])) rfl ⟨rfl, S1.out.b.trans (hw4.below _ (by omega))⟩
set_option maxHeartbeats 1000000 in
set_option maxRecDepth 100000 in
theorem step_err (l : LockT) (k c x : Int) (R Z : Array Value) (hz : ∀ w, (zeroValue 25).run Try.prog w = .ok (.agg Z) w) (HZ : Hid (Z = lockRow lz)) (HR : Hid (lockRow l = R)) (w : World) (ho : Hid (okT l = true)) (he : Hid (errT true l k c = x)) (hx : (x != 0) = true) :
    Calls Try.prog 9 #[.agg R, .agg #[.int .i64 k, .int .i64 c]] w fun e w' => e = .returned (.tuple #[.agg Z, .bool false, .int .i64 x]) ∧ Below w.heap.size w w' := by
  have S0 := Lib.hid (sb_new w R Z k c)
  have HS : Hid (R.size = 18) := Lib.hid (by rw [← HR.out]; rfl)
  have HZS : Hid (Z.size = 18) := Lib.hid (by rw [HZ.out]; rfl)
  have HA : Hid (Z.all (·.oneCell') = true) := Lib.hid (by rw [HZ.out]; exact row_all _)
  have HB : Hid ((Try.prog.built 25 []) = some Z) := Lib.hid (by rw [HZ.out]; kernel_rfl)
  go_enter Try.func9, Try.ntmps9
  go_wp2_with (first
    | (refine wpList_load_row rfl 25 _ rfl w.heap.size rfl 25 R (0, 0) _ S0.out.r Try.underlying25 rfl (by rw [size_lock, HS.out]) ?_)
    | (refine wpList_load_row rfl 25 _ rfl w.heap.size rfl 25 R (0, 0) _ S1.out.r Try.underlying25 rfl (by rw [size_lock, HS.out]) ?_)
    | (refine wpList_build_row rfl 25 _ rfl Z HB.out ?_)
    | (refine wpList_store_row rfl 25 _ _ rfl (w.heap.size + 1 + 1) Z rfl rfl 25 Z S2.out.z (by rw [size_lock, HZS.out]) rfl HA.out ?_; intro w4 hw4)
    | (go_at_call 12; (with_reducible refine (right_Y l R HR _ true ho).mono ?_); rintro e w1 ⟨rfl, hb⟩; have S1 := Lib.hid (S0.out.step hb); have G1 := S1.out.ops; clear hb)
    | (go_at_call 18; (with_reducible refine (check_R l k c x R HR _ he).mono ?_); rintro e w2 ⟨rfl, hb⟩; have S2 := Lib.hid (S1.out.step hb); have G2 := S2.out.ops; clear hb)
    | fail)
  refine bodyPost_ret (results_row_tmp2 rfl _ _ (w.heap.size + 1 + 1) 25 Z (0, 0) _ rfl hw4.put Try.underlying25 rfl (by rw [size_lock, HZS.out])) rfl ⟨rfl, S2.out.b.trans (hw4.below _ (by omega))⟩
theorem errT_no (l : LockT) (k c : Int) : errT false l k c = 1 := by unfold errT; exact if_pos rfl
/-- ticket.Step, for every lock and operation. -/
theorem step_R (l : LockT) (k c : Int) (R R' : Array Value) (t : Bool) (x : Int) (l' : LockT) (HR : Hid (lockRow l = R)) (HR' : Hid (lockRow l' = R')) (H : Hid (stepT l k c = (l', t, x))) (w : World) :
    Calls Try.prog 9 #[.agg R, .agg #[.int .i64 k, .int .i64 c]] w fun e w' => e = .returned (.tuple #[.agg R', .bool t, .int .i64 x]) ∧ Below w.heap.size w w' := by
  have h := H.out
  unfold stepT at h
  by_cases hr : Rt l
  · have ho := okT_true.2 hr
    rw [ho] at h
    by_cases he : errT true l k c = 0
    · rw [if_pos he] at h
      simp only [Prod.mk.injEq] at h
      obtain ⟨rfl, rfl, rfl⟩ := h
      obtain ⟨n, rfl, hop⟩ := errT_zero hr he
      rw [Int.toNat_natCast] at HR' ⊢
      exact step_ok l k n n (Lib.hid rfl) hop.1 R R' _ _ (zero_of_info info_lock).1 (Lib.hid rfl) HR HR' (Lib.hid rfl) w (Lib.hid ho) (Lib.hid hr) (Lib.hid hop) (Lib.hid he)
    · rw [if_neg he] at h
      simp only [Prod.mk.injEq] at h
      obtain ⟨rfl, rfl, rfl⟩ := h
      rw [← HR'.out]
      exact step_err l k c _ R _ (zero_of_info info_lock).1 (Lib.hid rfl) HR w (Lib.hid ho) (Lib.hid rfl) (by simpa using he)
  · have ho := okT_false hr
    rw [ho, errT_no, if_neg (by decide)] at h
    simp only [Prod.mk.injEq] at h
    obtain ⟨rfl, rfl, rfl⟩ := h
    rw [← HR'.out]
    exact step_form l k c R _ (zero_of_info info_lock).1 (Lib.hid rfl) HR w (Lib.hid ho)
end Go.Proofs.Ytfepgebnaglkaaa
