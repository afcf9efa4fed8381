/- Package work: the walk of perform. -/
import Derived.Test.YtlmkbgclogbpfaaWrkC
import Derived.Test.YtlmkbgclogbpfaaDelI
namespace Go.Proofs.Ytlmkbgclogbpfaa
open Go.RowKit

theorem index_quiet {n : Nat} {l : List Int} (v : Int) (hl : Hid (l.length = n)) (hn : n ≤ 9223372036854775807) (k : Nat) (hk : Hid (l[k]? = some v)) (hno : Hid (∀ j, j < k → ¬ l[j]? = some v)) (ad : Option Addr) (cap : Nat) (w1 : World) (HA : shI.At w1 ad cap l) :
    Calls Try.prog 20 #[.slice ad n cap, .int .i64 v] w1 fun e w' => e = .returned (.int .i64 (k : Int)) ∧ w' = w1 := by
  refine (index_F v w1 (Lib.hid (IntAt.of HA hl.out)) hn).mono ?_
  rintro e w' ⟨r, hr, rfl, rfl⟩
  refine ⟨?_, rfl⟩
  have hkl : k < n := by rw [← hl.out]; exact (List.getElem?_eq_some_iff.1 hk.out).1
  have hkv : fnL l k = v := by
    have := hk.out
    rw [fnL_get (by rw [hl.out]; exact hkl)] at this
    exact Option.some.inj this
  rcases hr with ⟨_, h⟩ | ⟨j, hj, rfl, hjv, hjn⟩
  · exact absurd hkv (h k hkl)
  · have : j = k := by
      rcases Nat.lt_trichotomy j k with h | h | h
      · exact absurd (by rw [fnL_get (by rw [hl.out]; exact hj), hjv]) (hno.out j h)
      · exact h
      · exact absurd hkv (hjn k h)
    rw [this]
/-- Where somebody stands first. -/
theorem first_at {l : List Int} {v : Int} (h : v ∈ l) : ∃ k : Nat, l[k]? = some v ∧ ∀ j : Nat, j < k → ¬ l[j]? = some v := by
  induction l with
  | nil => cases h
  | cons a r ih =>
    by_cases e : a = v
    · exact ⟨0, by rw [e]; rfl, fun j hj => by omega⟩
    · have hr : v ∈ r := by
        rcases List.mem_cons.1 h with q | q
        · exact absurd q.symm e
        · exact q
      obtain ⟨k, h1, h2⟩ := ih hr
      refine ⟨k + 1, h1, fun j hj => ?_⟩
      cases j with
      | zero => intro q; exact e (Option.some.inj q)
      | succ j => exact h2 j (by omega)
set_option maxHeartbeats 1000000 in
set_option maxRecDepth 100000 in
theorem per_queue {w0 w : World} {B : Nat} {s : StO} (H : Hid (WqS w0 w B s)) (i : Int) (hd : (allO s).length ≤ 400) :
    Calls Try.prog 19 #[.pointer (some ⟨B, 0, none⟩), .agg #[.int .i64 1, .int .i64 i]] w (StepQ w0 w B ⟨s.done, s.now, s.wait ++ [i]⟩) := by
  obtain ⟨wv, dv, h⟩ := H.out
  obtain ⟨i0, hi, hz0, hz1, hz2⟩ := info_parts info_int
  obtain ⟨ad, cap, rfl, hnc, hcm, hz, ha⟩ := que_shape h.wq
  have hwl := wait_le s
  obtain ⟨d, c, l⟩ := s
  obtain ⟨m, hm⟩ : ∃ m, l.length = m := ⟨_, rfl⟩
  simp only at h hnc hz hwl
  have hWQ := h.wq
  simp only at hWQ
  rw [hm] at h hnc hz hWQ hwl
  have hm4 : m ≤ 400 := by omega
  obtain ⟨bx, hbx⟩ : ∃ X, w.alloc (.cells #[.int .i64 1, .int .i64 i] 33) = X := ⟨_, rfl⟩
  have B0 := below_alloc w (.cells #[.int .i64 1, .int .i64 i] 33)
  have hh0 := heap_alloc_new w (.cells #[.int .i64 1, .int .i64 i] 33)
  rw [hbx] at B0 hh0
  have W1 := h.step B0
  obtain ⟨c0, c1, c2, hB⟩ := W1.read
  have T1 := pair_at hh0
  have hx0 := heap_lt hh0
  have BA : Below bx.heap.size bx (bx.alloc (.cells #[.int .i64 i] 3)).drew := (below_alloc bx _).drew
  have XA := Lib.hid (W1.step BA)
  have FO := Lib.hid (que_step (que_step hWQ B0) BA)
  have LA : Hid (shI.At (bx.alloc (.cells #[.int .i64 i] 3)).drew (some ⟨bx.heap.size, 0, none⟩) 1 [i]) := Lib.hid (int_lit bx i 1)
  have hbs : w0.heap.size ≤ (bx.alloc (.cells #[.int .i64 i] 3)).drew.heap.size := XA.out.b.size
  have KA := Lib.hid ((keepO_below B0).trans (keepO_below BA))
  clear H hz ha hm hWQ h hwl W1
  go_enter Try.func19, Try.ntmps19
  go_upto_region 3 with fail
  clear hbx
  go_region_law (first
    | (refine step_append_que shI rfl _ _ 24 rfl w0.heap.size 3 i0 _ 8 Try.underlying24 hi hz0 hz1 hz2 rfl (.slice ad m cap) m l [i] rfl FO.out (some ⟨bx.heap.size, 0, none⟩) 1 1 rfl (Lib.hid rfl) LA.out (by unfold maxLen; omega) (by omega) hbs ?_; intro ra rc w4 own4 grow4 new4; have H4 := XA.out.hpW grow4; have hB4 := heap_lt H4; have C4 := cell_hp (i := 0) H4 rfl; have hf4 : ∀ i, w4.frozen? ⟨B, i, none⟩ = false := fun i => frozen_of_row w4 B i _ _ H4; have G4 := Lib.hid grow4; have P4 := Lib.hid own4; have N4 := Lib.hid new4; clear own4 grow4 new4 H4)
    | fail)
  all_goals go_wp2_with fail
  all_goals go_end0
  all_goals exact ⟨rfl, ⟨_, _, XA.out.putW G4.out P4.out N4.out⟩, (KA.out.trans (keepO_que FO.out G4.out)).trans (keepO_set (XA.out.hpW G4.out))⟩
set_option maxHeartbeats 1000000 in
set_option maxRecDepth 100000 in
theorem per_begin {w0 w : World} {B : Nat} {s : StO} (H : Hid (WqS w0 w B s)) (i : Int) (hw : Hid (¬ s.wait = [])) :
    Calls Try.prog 19 #[.pointer (some ⟨B, 0, none⟩), .agg #[.int .i64 2, .int .i64 i]] w (StepQ w0 w B (beginO s)) := by
  have B0 := below_alloc w (.cells #[.int .i64 2, .int .i64 i] 33)
  obtain ⟨wv, dv, h⟩ := H.out
  have H1 : Hid (WqS w0 (w.alloc (.cells #[.int .i64 2, .int .i64 i] 33)) B s) := Lib.hid ⟨wv, dv, h.step B0⟩
  have T1 := pair_at (heap_alloc_new w (.cells #[.int .i64 2, .int .i64 i] 33))
  have K0 := Lib.hid (keepO_below B0)
  clear H h B0
  go_enter Try.func19, Try.ntmps19
  go_wp2_with (first
    | (go_at_call 23; (with_reducible refine (begin_W H1 hw).mono ?_); rintro e w1 ⟨rfl, h1, k1⟩; have G1 := Lib.hid h1; have K1 := Lib.hid k1; clear h1 k1)
    | fail)
  go_end0
  exact ⟨rfl, G1.out, K0.out.trans K1.out⟩
set_option maxHeartbeats 1000000 in
set_option maxRecDepth 100000 in
theorem per_end {w0 w : World} {B : Nat} {s : StO} (H : Hid (WqS w0 w B s)) (i : Int) (hd : (allO s).length ≤ 400) :
    Calls Try.prog 19 #[.pointer (some ⟨B, 0, none⟩), .agg #[.int .i64 3, .int .i64 i]] w (StepQ w0 w B (endO s)) := by
  have B0 := below_alloc w (.cells #[.int .i64 3, .int .i64 i] 33)
  obtain ⟨wv, dv, h⟩ := H.out
  have H1 : Hid (WqS w0 (w.alloc (.cells #[.int .i64 3, .int .i64 i] 33)) B s) := Lib.hid ⟨wv, dv, h.step B0⟩
  have T1 := pair_at (heap_alloc_new w (.cells #[.int .i64 3, .int .i64 i] 33))
  have K0 := Lib.hid (keepO_below B0)
  have hdl : s.done.length ≤ 400 := by have := done_le s; omega
  clear H h B0 hd
  go_enter Try.func19, Try.ntmps19
  go_wp2_with (first
    | (go_at_call 24; (with_reducible refine (end_W H1 hdl).mono ?_); rintro e w1 ⟨rfl, h1, k1⟩; have G1 := Lib.hid h1; have K1 := Lib.hid k1; clear h1 k1)
    | fail)
  go_end0
  exact ⟨rfl, G1.out, K0.out.trans K1.out⟩
set_option maxHeartbeats 1000000 in
set_option maxRecDepth 100000 in
theorem per_flush {w0 w : World} {B : Nat} {s : StO} (H : Hid (WqS w0 w B s)) (hg : Hid (GoodO s)) (i : Int) (hi : 0 ≤ i) (hd : Hid ((allO s).length ≤ 400)) :
    Calls Try.prog 19 #[.pointer (some ⟨B, 0, none⟩), .agg #[.int .i64 5, .int .i64 i]] w (StepQ w0 w B (flushO s i)) := by
  have B0 := below_alloc w (.cells #[.int .i64 5, .int .i64 i] 33)
  obtain ⟨wv, dv, h⟩ := H.out
  have H1 : Hid (WqS w0 (w.alloc (.cells #[.int .i64 5, .int .i64 i] 33)) B s) := Lib.hid ⟨wv, dv, h.step B0⟩
  have T1 := pair_at (heap_alloc_new w (.cells #[.int .i64 5, .int .i64 i] 33))
  have K0 := Lib.hid (keepO_below B0)
  clear H h B0
  go_enter Try.func19, Try.ntmps19
  go_wp2_with (first
    | (go_at_call 26; (with_reducible refine (flush_W H1 hg _ hi hd).mono ?_); rintro e w1 ⟨rfl, h1, k1⟩; have G1 := Lib.hid h1; have K1 := Lib.hid k1; clear h1 k1)
    | fail)
  go_end0
  exact ⟨rfl, G1.out, K0.out.trans K1.out⟩
set_option maxHeartbeats 1000000 in
set_option maxRecDepth 100000 in
theorem per_cancel {w0 w : World} {B : Nat} {s : StO} (H : Hid (WqS w0 w B s)) (hg : Hid (GoodO s)) (i : Int) (hw : i ∈ s.wait) (hd : (allO s).length ≤ 400) :
    Calls Try.prog 19 #[.pointer (some ⟨B, 0, none⟩), .agg #[.int .i64 4, .int .i64 i]] w (StepQ w0 w B ⟨s.done, s.now, s.wait.filter fun x => decide (¬ x = i)⟩) := by
  obtain ⟨k, hk1, hk2⟩ := first_at hw
  have hcut := filter_cut hg.out.nod hk1
  obtain ⟨wv, dv, h⟩ := H.out
  obtain ⟨ad, cap, rfl, hnc, hcm, hz, ha⟩ := que_shape h.wq
  have hwl := wait_le s
  obtain ⟨d, c, l⟩ := s
  simp only at h hnc hz hwl hk1 hk2 hw hcut
  have hkl := (List.getElem?_eq_some_iff.1 hk1).1
  obtain ⟨m, hm⟩ : ∃ m, l.length = m := ⟨_, rfl⟩
  have hWQ := h.wq
  simp only at hWQ
  rw [hm] at h hnc hz hWQ hwl hkl
  have hm63 : m ≤ 9223372036854775807 := by omega
  have B0 := below_alloc w (.cells #[.int .i64 4, .int .i64 i] 33)
  have W1 := h.step B0
  obtain ⟨c0, c1, c2, hB⟩ := W1.read
  have T1 := pair_at (heap_alloc_new w (.cells #[.int .i64 4, .int .i64 i] 33))
  have HT := Lib.hid (que_at (que_step hWQ B0))
  have HI := Lib.hid (index_quiet i (Lib.hid hm) hm63 k (Lib.hid hk1) (Lib.hid hk2) ad cap)
  have XQ : Hid (∀ q, WqR w0 ((w.alloc (.cells #[.int .i64 4, .int .i64 i] 33)).drewN q) B ⟨d, c, l⟩ (.slice ad m cap) dv) := Lib.hid fun q => W1.step (below_drewN (Below.refl _ _) q)
  have FQ : Hid (∀ q, Que shI ((w.alloc (.cells #[.int .i64 4, .int .i64 i] 33)).drewN q) w0.heap.size 3 (.slice ad m cap) m l) := Lib.hid fun q => que_step (que_step hWQ B0) (below_drewN (Below.refl _ _) q)
  have KQ : Hid (∀ q, KeepO w ((w.alloc (.cells #[.int .i64 4, .int .i64 i] 33)).drewN q)) := Lib.hid fun q => keepO_below (below_drewN B0 q)
  have HC := Lib.hid hcut
  have hw1 : IntKind.i64.wrap ((k : Int) + 1) = (k : Int) + 1 := by rw [IntKind.wrap_i64]; omega
  clear H hz ha hm hWQ h hwl W1 hg hw hk1 hk2 hcut hd
  go_enter Try.func19, Try.ntmps19
  go_wp2_with fail
  go_quiet ((go_at_call 20; exact Calls.quiet_of_same (HI.out _ (HT.out.step (below_drewN (Below.refl _ _) _)))))
  go_wp2_with (first
    | (go_at_call 25; (with_reducible refine (delete_que k _ (Lib.hid (FQ.out _)) hkl).mono ?_); rintro e w4 ⟨rfl, own4, grow4⟩; have G4 := Lib.hid grow4; have P4 := Lib.hid own4; have H4 := (XQ.out _).hpW grow4; have hB4 := heap_lt H4; have C4 := cell_hp (i := 0) H4 rfl; have hf4 : ∀ i, w4.frozen? ⟨B, i, none⟩ = false := fun i => frozen_of_row w4 B i _ _ H4; clear own4 grow4 H4)
    | fail)
  go_end0
  have P5 := P4.out
  rw [HC.out] at P5
  exact ⟨rfl, ⟨_, _, (XQ.out _).putW G4.out P5 (fun g hg => Or.inl (by cases ad with | none => cases hg | some a => exact hg))⟩, ((KQ.out _).trans (keepO_que (FQ.out _) G4.out)).trans (keepO_set ((XQ.out _).hpW G4.out))⟩
theorem perform_W {w0 w : World} {B : Nat} {s : StO} (H : Hid (WqS w0 w B s)) (hg : Hid (GoodO s)) (k i : Int) (he : errO s ⟨k, i⟩ = 0) (hd : (allO s).length ≤ 400) :
    Calls Try.prog 19 #[.pointer (some ⟨B, 0, none⟩), .agg #[.int .i64 k, .int .i64 i]] w (StepQ w0 w B (doO s ⟨k, i⟩)) := by
  have hr := (err_rng he).2
  rcases err_kinds he with e | e | e | e | e <;> simp only at e <;> subst e
  · exact per_queue H i hd
  · exact per_begin H i (Lib.hid (err_2 he).2)
  · exact per_end H i hd
  · exact per_cancel H hg i (err_4 he) hd
  · have := hr (by simp) (by simp)
    exact per_flush H hg i this.1 (Lib.hid hd)
end Go.Proofs.Ytlmkbgclogbpfaa
