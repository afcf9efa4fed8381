/- Walks: apic.Would, ask, take, end, setClass, Step, each for every input. -/
import Derived.Test.YtgddbmbljlngnaaDoorLocB
namespace Go.Proofs.YtgddbmbljlngnaaDoor
open Go.RowKit

theorem bstep {W w w' : World} (h : Below W.heap.size W w) (hb : Below w.heap.size w w') : Below W.heap.size W w' := h.trans (hb.mono h.size)
set_option maxHeartbeats 2000000 in
set_option maxRecDepth 100000 in
theorem would_0 (s : St) (w : World) (HO : Hid s.Ok) (HT : Hid (Tab w)) (H1 : Hid (s.right = false)) :
    Calls Tryd.prog 14 #[.agg #[.int .u64 s.a0, .int .u64 s.a1, .int .u64 s.a2, .int .u64 s.a3, .int .u64 s.s0, .int .u64 s.s1, .int .u64 s.s2, .int .u64 s.s3, .int .i64 s.c]] w fun e w' => e = .returned (.int .i64 (-1)) ∧ Below w.heap.size w w' := by
  have T0 := (loc_new w s).1
  have B0 := (loc_new w s).2
  go_enter Tryd.func14, Tryd.ntmps14
  go_wp2_with (go_at_call 12; with_reducible refine (right_W (W := w) s false _ HO H1 HT (by with_reducible assumption)).mono ?_; rintro e w' ⟨rfl, BB, hb⟩; have TT := LBox.step (by with_reducible assumption) hb; clear hb; obtain ⟨c0, c1, c2, c3, c4, c5, c6, c7, c8⟩ := TT.cells)
  go_ret
  exact ⟨rfl, by assumption⟩
set_option linter.unusedSimpArgs false in
set_option maxHeartbeats 2000000 in
set_option maxRecDepth 100000 in
theorem would_1 (s : St) (x : Int) (w : World) (HO : Hid s.Ok) (OA : Hid (Ok s.a0 s.a1 s.a2 s.a3)) (HT : Hid (Tab w)) (H1 : Hid (s.right = true)) (Hx : Hid (topOf (mem s.a0 s.a1 s.a2 s.a3) = x)) (h0 : x < 0) :
    Calls Tryd.prog 14 #[.agg #[.int .u64 s.a0, .int .u64 s.a1, .int .u64 s.a2, .int .u64 s.a3, .int .u64 s.s0, .int .u64 s.s1, .int .u64 s.s2, .int .u64 s.s3, .int .i64 s.c]] w fun e w' => e = .returned (.int .i64 (-1)) ∧ Below w.heap.size w w' := by
  have T0 := (loc_new w s).1
  have B0 := (loc_new w s).2
  go_enter Tryd.func14, Tryd.ntmps14
  go_upto_region 4 with (first
    | (go_at_call 12; with_reducible refine (right_W (W := w) s true _ HO H1 HT (by with_reducible assumption)).mono ?_; rintro e w' ⟨rfl, BB, hb⟩; have TT := LBox.step (by with_reducible assumption) hb; clear hb; obtain ⟨c0, c1, c2, c3, c4, c5, c6, c7, c8⟩ := TT.cells)
    | (go_at_call 18; with_reducible refine (top_every s.a0 s.a1 s.a2 s.a3 x _ OA Hx).mono ?_; rintro e w' ⟨rfl, hb⟩; have BB := bstep (W := w) (by with_reducible assumption) hb; have TT := LBox.step (by with_reducible assumption) hb; clear hb; obtain ⟨c0, c1, c2, c3, c4, c5, c6, c7, c8⟩ := TT.cells))
  have BBd := (BB : Below w.heap.size w _).drew
  refine wp_region_noPanic ?_
  refine wp_region_held_drew (S := fun w' => Below w.heap.size w w') (by kernel_rfl) (BBd) (fun hHeld => ?_)
  refine wpAnyH_take (i := 0) (v := ?_) rfl (by kernel_rfl) (by kernel_rfl) (by kernel_rfl) (fun _ _ _ h => h) (Or.inl ⟨by rfl, ?_⟩) (by assumption) ?_
  rotate_left
  · (intro w hSw; (try dsimp only at hSw); go_simp; try with_reducible rfl)
  simp only [List.getElem_toArray, List.getElem_cons_zero, List.getElem_cons_succ, Act.put, List.setIfInBounds_toArray, List.set_cons_zero, List.set_cons_succ]
  refine wpAnyH_take (i := 1) (v := ?_) rfl (by kernel_rfl) (by kernel_rfl) (by kernel_rfl) (fun _ _ _ h => h) (Or.inl ⟨by rfl, ?_⟩) (by assumption) ?_
  rotate_left
  · (intro w hSw; (try dsimp only at hSw); go_simp; try with_reducible rfl)
  simp only [List.getElem_toArray, List.getElem_cons_zero, List.getElem_cons_succ, Act.put, List.setIfInBounds_toArray, List.set_cons_zero, List.set_cons_succ]
  refine wpAnyH_take (i := 2) (v := ?_) rfl (by kernel_rfl) (by kernel_rfl) (by kernel_rfl) (fun _ _ _ h => h) (Or.inl ⟨by rfl, ?_⟩) (by assumption) ?_
  rotate_left
  · (intro w hSw; (try dsimp only at hSw); go_simp; try with_reducible rfl)
  simp only [List.getElem_toArray, List.getElem_cons_zero, List.getElem_cons_succ, Act.put, List.setIfInBounds_toArray, List.set_cons_zero, List.set_cons_succ]
  refine wpAnyH_take (i := 3) (v := undef) rfl (by kernel_rfl) (by kernel_rfl) (by kernel_rfl) (fun _ _ _ h => h) (Or.inr ⟨by rfl, rfl⟩) (by assumption) ?_
  simp only [List.getElem_toArray, List.getElem_cons_zero, List.getElem_cons_succ, Act.put, List.setIfInBounds_toArray, List.set_cons_zero, List.set_cons_succ]
  refine wpAnyH_take (i := 4) (v := undef) rfl (by kernel_rfl) (by kernel_rfl) (by kernel_rfl) (fun _ _ _ h => h) (Or.inr ⟨by rfl, rfl⟩) (by assumption) ?_
  simp only [List.getElem_toArray, List.getElem_cons_zero, List.getElem_cons_succ, Act.put, List.setIfInBounds_toArray, List.set_cons_zero, List.set_cons_succ]
  refine wpAnyH_take (i := 5) (v := undef) rfl (by kernel_rfl) (by kernel_rfl) (by kernel_rfl) (fun _ _ _ h => h) (Or.inr ⟨by rfl, rfl⟩) (by assumption) ?_
  simp only [List.getElem_toArray, List.getElem_cons_zero, List.getElem_cons_succ, Act.put, List.setIfInBounds_toArray, List.set_cons_zero, List.set_cons_succ]
  refine wpAnyH_take (i := 6) (v := undef) rfl (by kernel_rfl) (by kernel_rfl) (by kernel_rfl) (fun _ _ _ h => h) (Or.inr ⟨by rfl, rfl⟩) (by assumption) ?_
  simp only [List.getElem_toArray, List.getElem_cons_zero, List.getElem_cons_succ, Act.put, List.setIfInBounds_toArray, List.set_cons_zero, List.set_cons_succ]
  refine wpAnyH_take (i := 7) (v := undef) rfl (by kernel_rfl) (by kernel_rfl) (by kernel_rfl) (fun _ _ _ h => h) (Or.inr ⟨by rfl, rfl⟩) (by assumption) ?_
  simp only [List.getElem_toArray, List.getElem_cons_zero, List.getElem_cons_succ, Act.put, List.setIfInBounds_toArray, List.set_cons_zero, List.set_cons_succ]
  refine wpAnyH_take (i := 8) (v := ?_) rfl (by kernel_rfl) (by kernel_rfl) (by kernel_rfl) (fun _ _ _ h => h) (Or.inl ⟨by rfl, ?_⟩) (by assumption) ?_
  rotate_left
  · (intro w hSw; (try dsimp only at hSw); go_simp; try with_reducible rfl)
  simp only [List.getElem_toArray, List.getElem_cons_zero, List.getElem_cons_succ, Act.put, List.setIfInBounds_toArray, List.set_cons_zero, List.set_cons_succ]
  refine wpAnyH_done (by kernel_rfl) ?_ _
  refine NoPanic.normal ?_

  go_wp2_with fail
  go_ret
  exact ⟨rfl, BBd⟩
set_option maxHeartbeats 2000000 in
set_option maxRecDepth 100000 in
theorem would_2 (s : St) (x cx : Int) (w : World) (HO : Hid s.Ok) (OA : Hid (Ok s.a0 s.a1 s.a2 s.a3)) (HT : Hid (Tab w)) (H1 : Hid (s.right = true)) (Hx : Hid (topOf (mem s.a0 s.a1 s.a2 s.a3) = x)) (hd0 : decide (x < 0) = false) (H0 : Hid (0 ≤ x)) (H2 : Hid (x < 256)) (Hcx : Hid (x / 16 = cx)) (hle : cx ≤ s.c) :
    Calls Tryd.prog 14 #[.agg #[.int .u64 s.a0, .int .u64 s.a1, .int .u64 s.a2, .int .u64 s.a3, .int .u64 s.s0, .int .u64 s.s1, .int .u64 s.s2, .int .u64 s.s3, .int .i64 s.c]] w fun e w' => e = .returned (.int .i64 (-1)) ∧ Below w.heap.size w w' := by
  have T0 := (loc_new w s).1
  have B0 := (loc_new w s).2
  go_enter Tryd.func14, Tryd.ntmps14
  go_upto_region 4 with (first
    | (go_at_call 12; with_reducible refine (right_W (W := w) s true _ HO H1 HT (by with_reducible assumption)).mono ?_; rintro e w' ⟨rfl, BB, hb⟩; have TT := LBox.step (by with_reducible assumption) hb; clear hb; obtain ⟨c0, c1, c2, c3, c4, c5, c6, c7, c8⟩ := TT.cells)
    | (go_at_call 18; with_reducible refine (top_every s.a0 s.a1 s.a2 s.a3 x _ OA Hx).mono ?_; rintro e w' ⟨rfl, hb⟩; have BB := bstep (W := w) (by with_reducible assumption) hb; have TT := LBox.step (by with_reducible assumption) hb; clear hb; obtain ⟨c0, c1, c2, c3, c4, c5, c6, c7, c8⟩ := TT.cells))
  have BBd := (BB : Below w.heap.size w _).drew
  have TTd := Loc.drew ⟨TT, BB⟩ |>.1
  go_region_with (go_at_call 31; with_reducible refine (class_R x cx _ H0 H2 Hcx).mono ?_; rintro e w' ⟨rfl, rfl⟩)
  all_goals
    go_wp2_with (first
      | fail)
    go_ret
    exact ⟨rfl, by assumption⟩
set_option maxHeartbeats 2000000 in
set_option maxRecDepth 100000 in
theorem would_3 (s : St) (x cx y : Int) (w : World) (HO : Hid s.Ok) (OA : Hid (Ok s.a0 s.a1 s.a2 s.a3)) (HT : Hid (Tab w)) (H1 : Hid (s.right = true)) (Hx : Hid (topOf (mem s.a0 s.a1 s.a2 s.a3) = x)) (OS : Hid (Ok s.s0 s.s1 s.s2 s.s3)) (Hy : Hid (topOf (mem s.s0 s.s1 s.s2 s.s3) = y)) (hd0 : decide (x < 0) = false) (H0 : Hid (0 ≤ x)) (H2 : Hid (x < 256)) (Hcx : Hid (x / 16 = cx)) (hd1 : decide (cx ≤ s.c) = false) (hd2 : decide (0 ≤ y) = false) :
    Calls Tryd.prog 14 #[.agg #[.int .u64 s.a0, .int .u64 s.a1, .int .u64 s.a2, .int .u64 s.a3, .int .u64 s.s0, .int .u64 s.s1, .int .u64 s.s2, .int .u64 s.s3, .int .i64 s.c]] w fun e w' => e = .returned (.int .i64 x) ∧ Below w.heap.size w w' := by
  have T0 := (loc_new w s).1
  have B0 := (loc_new w s).2
  go_enter Tryd.func14, Tryd.ntmps14
  go_upto_region 4 with (first
    | (go_at_call 12; with_reducible refine (right_W (W := w) s true _ HO H1 HT (by with_reducible assumption)).mono ?_; rintro e w' ⟨rfl, BB, hb⟩; have TT := LBox.step (by with_reducible assumption) hb; clear hb; obtain ⟨c0, c1, c2, c3, c4, c5, c6, c7, c8⟩ := TT.cells)
    | (go_at_call 18; with_reducible refine (top_every s.a0 s.a1 s.a2 s.a3 x _ OA Hx).mono ?_; rintro e w' ⟨rfl, hb⟩; have BB := bstep (W := w) (by with_reducible assumption) hb; have TT := LBox.step (by with_reducible assumption) hb; clear hb; obtain ⟨c0, c1, c2, c3, c4, c5, c6, c7, c8⟩ := TT.cells))
  have BBd := (BB : Below w.heap.size w _).drew
  have TTd := Loc.drew ⟨TT, BB⟩ |>.1
  go_region_with (go_at_call 31; with_reducible refine (class_R x cx _ H0 H2 Hcx).mono ?_; rintro e w' ⟨rfl, rfl⟩)
  all_goals
    go_wp2_with (first
      | (go_at_call 18; with_reducible refine (top_every s.s0 s.s1 s.s2 s.s3 y _ OS Hy).mono ?_; rintro e w' ⟨rfl, hb⟩; have BB := bstep (W := w) (by with_reducible assumption) hb; have TT := LBox.step (by with_reducible assumption) hb; clear hb; obtain ⟨c0, c1, c2, c3, c4, c5, c6, c7, c8⟩ := TT.cells))
    go_ret
    exact ⟨rfl, by assumption⟩
set_option maxHeartbeats 2000000 in
set_option maxRecDepth 100000 in
theorem would_4 (s : St) (x cx y cy : Int) (w : World) (HO : Hid s.Ok) (OA : Hid (Ok s.a0 s.a1 s.a2 s.a3)) (HT : Hid (Tab w)) (H1 : Hid (s.right = true)) (Hx : Hid (topOf (mem s.a0 s.a1 s.a2 s.a3) = x)) (OS : Hid (Ok s.s0 s.s1 s.s2 s.s3)) (Hy : Hid (topOf (mem s.s0 s.s1 s.s2 s.s3) = y)) (hd0 : decide (x < 0) = false) (H0 : Hid (0 ≤ x)) (H2 : Hid (x < 256)) (Hcx : Hid (x / 16 = cx)) (hd1 : decide (cx ≤ s.c) = false) (h2 : 0 ≤ y) (H3 : Hid (0 ≤ y)) (H4 : Hid (y < 256)) (Hcy : Hid (y / 16 = cy)) (h3 : cx ≤ cy) :
    Calls Tryd.prog 14 #[.agg #[.int .u64 s.a0, .int .u64 s.a1, .int .u64 s.a2, .int .u64 s.a3, .int .u64 s.s0, .int .u64 s.s1, .int .u64 s.s2, .int .u64 s.s3, .int .i64 s.c]] w fun e w' => e = .returned (.int .i64 (-1)) ∧ Below w.heap.size w w' := by
  have T0 := (loc_new w s).1
  have B0 := (loc_new w s).2
  go_enter Tryd.func14, Tryd.ntmps14
  go_upto_region 4 with (first
    | (go_at_call 12; with_reducible refine (right_W (W := w) s true _ HO H1 HT (by with_reducible assumption)).mono ?_; rintro e w' ⟨rfl, BB, hb⟩; have TT := LBox.step (by with_reducible assumption) hb; clear hb; obtain ⟨c0, c1, c2, c3, c4, c5, c6, c7, c8⟩ := TT.cells)
    | (go_at_call 18; with_reducible refine (top_every s.a0 s.a1 s.a2 s.a3 x _ OA Hx).mono ?_; rintro e w' ⟨rfl, hb⟩; have BB := bstep (W := w) (by with_reducible assumption) hb; have TT := LBox.step (by with_reducible assumption) hb; clear hb; obtain ⟨c0, c1, c2, c3, c4, c5, c6, c7, c8⟩ := TT.cells))
  have BBd := (BB : Below w.heap.size w _).drew
  have TTd := Loc.drew ⟨TT, BB⟩ |>.1
  go_region_with (go_at_call 31; with_reducible refine (class_R x cx _ H0 H2 Hcx).mono ?_; rintro e w' ⟨rfl, rfl⟩)
  all_goals
    go_wp2_with (first
      | (go_at_call 18; with_reducible refine (top_every s.s0 s.s1 s.s2 s.s3 y _ OS Hy).mono ?_; rintro e w' ⟨rfl, hb⟩; have BB := bstep (W := w) (by with_reducible assumption) hb; have TT := LBox.step (by with_reducible assumption) hb; clear hb; obtain ⟨c0, c1, c2, c3, c4, c5, c6, c7, c8⟩ := TT.cells)
      | (go_at_call 31; with_reducible refine (class_R x cx _ H0 H2 Hcx).mono ?_; rintro e w' ⟨rfl, rfl⟩)
      | (go_at_call 31; with_reducible refine (class_R y cy _ H3 H4 Hcy).mono ?_; rintro e w' ⟨rfl, rfl⟩))
    go_ret
    exact ⟨rfl, by assumption⟩
set_option maxHeartbeats 2000000 in
set_option maxRecDepth 100000 in
theorem would_5 (s : St) (x cx y cy : Int) (w : World) (HO : Hid s.Ok) (OA : Hid (Ok s.a0 s.a1 s.a2 s.a3)) (HT : Hid (Tab w)) (H1 : Hid (s.right = true)) (Hx : Hid (topOf (mem s.a0 s.a1 s.a2 s.a3) = x)) (OS : Hid (Ok s.s0 s.s1 s.s2 s.s3)) (Hy : Hid (topOf (mem s.s0 s.s1 s.s2 s.s3) = y)) (hd0 : decide (x < 0) = false) (H0 : Hid (0 ≤ x)) (H2 : Hid (x < 256)) (Hcx : Hid (x / 16 = cx)) (hd1 : decide (cx ≤ s.c) = false) (h2 : 0 ≤ y) (H3 : Hid (0 ≤ y)) (H4 : Hid (y < 256)) (Hcy : Hid (y / 16 = cy)) (hd3 : decide (cx ≤ cy) = false) :
    Calls Tryd.prog 14 #[.agg #[.int .u64 s.a0, .int .u64 s.a1, .int .u64 s.a2, .int .u64 s.a3, .int .u64 s.s0, .int .u64 s.s1, .int .u64 s.s2, .int .u64 s.s3, .int .i64 s.c]] w fun e w' => e = .returned (.int .i64 x) ∧ Below w.heap.size w w' := by
  have T0 := (loc_new w s).1
  have B0 := (loc_new w s).2
  go_enter Tryd.func14, Tryd.ntmps14
  go_upto_region 4 with (first
    | (go_at_call 12; with_reducible refine (right_W (W := w) s true _ HO H1 HT (by with_reducible assumption)).mono ?_; rintro e w' ⟨rfl, BB, hb⟩; have TT := LBox.step (by with_reducible assumption) hb; clear hb; obtain ⟨c0, c1, c2, c3, c4, c5, c6, c7, c8⟩ := TT.cells)
    | (go_at_call 18; with_reducible refine (top_every s.a0 s.a1 s.a2 s.a3 x _ OA Hx).mono ?_; rintro e w' ⟨rfl, hb⟩; have BB := bstep (W := w) (by with_reducible assumption) hb; have TT := LBox.step (by with_reducible assumption) hb; clear hb; obtain ⟨c0, c1, c2, c3, c4, c5, c6, c7, c8⟩ := TT.cells))
  have BBd := (BB : Below w.heap.size w _).drew
  have TTd := Loc.drew ⟨TT, BB⟩ |>.1
  go_region_with (go_at_call 31; with_reducible refine (class_R x cx _ H0 H2 Hcx).mono ?_; rintro e w' ⟨rfl, rfl⟩)
  all_goals
    go_wp2_with (first
      | (go_at_call 18; with_reducible refine (top_every s.s0 s.s1 s.s2 s.s3 y _ OS Hy).mono ?_; rintro e w' ⟨rfl, hb⟩; have BB := bstep (W := w) (by with_reducible assumption) hb; have TT := LBox.step (by with_reducible assumption) hb; clear hb; obtain ⟨c0, c1, c2, c3, c4, c5, c6, c7, c8⟩ := TT.cells)
      | (go_at_call 31; with_reducible refine (class_R x cx _ H0 H2 Hcx).mono ?_; rintro e w' ⟨rfl, rfl⟩)
      | (go_at_call 31; with_reducible refine (class_R y cy _ H3 H4 Hcy).mono ?_; rintro e w' ⟨rfl, rfl⟩))
    go_ret
    exact ⟨rfl, by assumption⟩
theorem would_R (s : St) (v : Int) (w : World) (HO : Hid s.Ok) (hT : Tab w) (hv : Hid (s.would = v)) :
    Calls Tryd.prog 14 #[.agg #[.int .u64 s.a0, .int .u64 s.a1, .int .u64 s.a2, .int .u64 s.a3, .int .u64 s.s0, .int .u64 s.s1, .int .u64 s.s2, .int .u64 s.s3, .int .i64 s.c]] w fun e w' => e = .returned (.int .i64 v) ∧ Below w.heap.size w w' := by
  rw [← hv.out]
  unfold St.would wouldOf
  cases hr : rightB s.p s.q s.c
  · rw [if_neg (by simp)]
    exact would_0 s w HO hT hr
  · have hx := topOf_lt s.p
    have hy := topOf_lt s.q
    by_cases h0 : topOf s.p < 0
    · rw [if_neg (by omega)]
      exact would_1 s _ w HO HO.out.1 hT hr rfl h0
    · by_cases h1 : topOf s.p / 16 ≤ s.c
      · rw [if_neg (by omega)]
        exact would_2 s _ _ w HO HO.out.1 hT hr rfl (decide_eq_false h0) (show 0 ≤ topOf s.p by omega) (show topOf s.p < 256 by omega) rfl h1
      · by_cases h2 : 0 ≤ topOf s.q
        · by_cases h3 : topOf s.p / 16 ≤ topOf s.q / 16
          · rw [if_neg (by omega)]
            exact would_4 s _ _ _ _ w HO HO.out.1 hT hr rfl HO.out.2 rfl (decide_eq_false h0) (show 0 ≤ topOf s.p by omega) (show topOf s.p < 256 by omega) rfl (decide_eq_false h1) h2 h2 (show topOf s.q < 256 by omega) rfl h3
          · rw [if_pos (by simp; omega)]
            exact would_5 s _ _ _ _ w HO HO.out.1 hT hr rfl HO.out.2 rfl (decide_eq_false h0) (show 0 ≤ topOf s.p by omega) (show topOf s.p < 256 by omega) rfl (decide_eq_false h1) h2 h2 (show topOf s.q < 256 by omega) rfl (decide_eq_false h3)
        · rw [if_pos (by simp; omega)]
          exact would_3 s _ _ _ w HO HO.out.1 hT hr rfl HO.out.2 rfl (decide_eq_false h0) (show 0 ≤ topOf s.p by omega) (show topOf s.p < 256 by omega) rfl (decide_eq_false h1) (decide_eq_false h2)
theorem would_W {W : World} (s : St) (v : Int) (w : World) (h : Hid s.Ok) (hv : Hid (s.would = v)) (hT : Hid (Tab W)) (hB : Below W.heap.size W w) :
    Calls Tryd.prog 14 #[.agg #[.int .u64 s.a0, .int .u64 s.a1, .int .u64 s.a2, .int .u64 s.a3, .int .u64 s.s0, .int .u64 s.s1, .int .u64 s.s2, .int .u64 s.s3, .int .i64 s.c]] w fun e w' => e = .returned (.int .i64 v) ∧ Below W.heap.size W w' ∧ Below w.heap.size w w' := by
  refine (would_R s v w h (hT.out.below hB) hv).mono ?_
  rintro e w' ⟨h1, hb⟩
  exact ⟨h1, hB.trans (hb.mono hB.size), hb⟩
end Go.Proofs.YtgddbmbljlngnaaDoor
