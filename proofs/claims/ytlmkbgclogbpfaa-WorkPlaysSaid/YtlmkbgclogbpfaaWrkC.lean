/- Package work: the walks of checkItem and check. -/
import Derived.Test.YtlmkbgclogbpfaaWrkB
namespace Go.Proofs.Ytlmkbgclogbpfaa
open Go.RowKit

theorem contains_quiet {n : Nat} {l : List Int} (v : Int) (hl : Hid (l.length = n)) (hn : n ≤ 9223372036854775807) (q : Bool) (hq : Hid (q = decide (v ∈ l))) (ad : Option Addr) (cap : Nat) (w1 : World) (HA : shI.At w1 ad cap l) :
    Calls Try.prog 15 #[.slice ad n cap, .int .i64 v] w1 fun e w' => e = .returned (.bool q) ∧ w' = w1 :=
  (contains_Q v w1 (Lib.hid HA) hl hn q hq).mono fun _ _ h => ⟨h.1, h.2.symm⟩
set_option maxHeartbeats 1000000 in
set_option maxRecDepth 100000 in
theorem checkItem_W {w0 w : World} {B : Nat} {s : StO} (H : Hid (WqS w0 w B s)) (k i : Int) (hk : k = 1 ∨ k = 4 ∨ k = 5) (hd : (allO s).length ≤ 400) (x : Int) (hx : Hid (errO s ⟨k, i⟩ = x)) :
    Calls Try.prog 22 #[.pointer (some ⟨B, 0, none⟩), .agg #[.int .i64 k, .int .i64 i]] w fun e w' => e = .returned (.int .i64 x) ∧ Below w.heap.size w w' := by
  obtain ⟨wv, dv, h⟩ := H.out
  have B0 := below_alloc w (.cells #[.int .i64 k, .int .i64 i] 33)
  have W1 := h.step B0
  obtain ⟨ad, cap, rfl, hnc, hcm, hz, ha⟩ := que_shape h.wq
  obtain ⟨c0, c1, c2, hB⟩ := W1.read
  have T1 := pair_at (heap_alloc_new w (.cells #[.int .i64 k, .int .i64 i] 33))
  have hn63 : s.wait.length ≤ 9223372036854775807 := by have := wait_le s; omega
  obtain ⟨n, hn⟩ : ∃ n, s.wait.length = n := ⟨_, rfl⟩
  have HT := Lib.hid (que_at W1.wq)
  rw [hn] at c0 hn63
  have HL : Hid (s.wait.length = n) := Lib.hid hn
  obtain ⟨b, hb⟩ : ∃ b, decide (i ∈ s.wait) = b := ⟨_, rfl⟩
  have HC := Lib.hid (contains_quiet i HL hn63 b (Lib.hid hb.symm) ad cap)
  have HB := Lib.hid hb
  have BQ : Hid (∀ q, Below w.heap.size w ((w.alloc (.cells #[.int .i64 k, .int .i64 i] 33)).drewN q)) := Lib.hid fun q => below_drewN B0 q
  clear h hz ha W1 hn hb H B0 hnc hcm hd
  by_cases hr : 0 ≤ i ∧ i ≤ 99
  · obtain ⟨r1, r2⟩ := hr
    have r3 : ¬ i < 0 := by omega
    have r4 : ¬ 99 < i := by omega
    have d1 : decide (i < 0) = false := decide_eq_false r3
    have d2 : decide (99 < i) = false := decide_eq_false r4
    rcases hk with rfl | rfl | rfl
    · cases b with
      | true =>
        obtain rfl : x = 6 := by
          have := of_decide_eq_true HB.out
          rw [← hx.out]; simp [errO, r3, r4, this]
        go_enter Try.func22, Try.ntmps22
        go_wp2_with fail
        go_quiet ((go_at_call 15; exact Calls.quiet_of_same (HC.out _ (HT.out.step (below_drewN (Below.refl _ _) _)))))
        go_wp2_with fail
        go_ret
        exact ⟨rfl, BQ.out _⟩
      | false =>
        obtain rfl : x = 0 := by
          have := of_decide_eq_false HB.out
          rw [← hx.out]; simp [errO, r3, r4, this]
        go_enter Try.func22, Try.ntmps22
        go_wp2_with fail
        go_quiet ((go_at_call 15; exact Calls.quiet_of_same (HC.out _ (HT.out.step (below_drewN (Below.refl _ _) _)))))
        go_wp2_with fail
        go_ret
        exact ⟨rfl, BQ.out _⟩
    · cases b with
      | true =>
        obtain rfl : x = 0 := by
          have := of_decide_eq_true HB.out
          rw [← hx.out]; simp [errO, r3, r4, this]
        go_enter Try.func22, Try.ntmps22
        go_wp2_with fail
        go_quiet ((go_at_call 15; exact Calls.quiet_of_same (HC.out _ (HT.out.step (below_drewN (Below.refl _ _) _)))))
        go_wp2_with fail
        go_ret
        exact ⟨rfl, BQ.out _⟩
      | false =>
        obtain rfl : x = 3 := by
          have := of_decide_eq_false HB.out
          rw [← hx.out]; simp [errO, r3, r4, this]
        go_enter Try.func22, Try.ntmps22
        go_wp2_with fail
        go_quiet ((go_at_call 15; exact Calls.quiet_of_same (HC.out _ (HT.out.step (below_drewN (Below.refl _ _) _)))))
        go_wp2_with fail
        go_ret
        exact ⟨rfl, BQ.out _⟩
    · obtain rfl : x = 0 := by rw [← hx.out]; simp [errO, r3, r4]
      go_enter Try.func22, Try.ntmps22
      go_wp2_with fail
      go_quiet ((go_at_call 15; exact Calls.quiet_of_same (HC.out _ (HT.out.step (below_drewN (Below.refl _ _) _)))))
      go_wp2_with fail
      go_ret
      exact ⟨rfl, BQ.out _⟩
  · have hr' : i < 0 ∨ 99 < i := by omega
    obtain rfl : x = 2 := by
      rw [← hx.out]
      rcases hk with rfl | rfl | rfl <;> simp [errO, hr']
    by_cases hlt : i < 0
    · go_enter Try.func22, Try.ntmps22
      go_wp2_with fail
      go_quiet ((go_at_call 15; exact Calls.quiet_of_same (HC.out _ (HT.out.step (below_drewN (Below.refl _ _) _)))))
      go_wp2_with fail
      go_ret
      exact ⟨rfl, BQ.out _⟩
    · have hgt : 99 < i := by omega
      go_enter Try.func22, Try.ntmps22
      go_wp2_with fail
      go_quiet ((go_at_call 15; exact Calls.quiet_of_same (HC.out _ (HT.out.step (below_drewN (Below.refl _ _) _)))))
      go_wp2_with fail
      go_ret
      exact ⟨rfl, BQ.out _⟩
set_option maxHeartbeats 1000000 in
set_option maxRecDepth 100000 in
theorem check_W {w0 w : World} {B : Nat} {s : StO} (H : Hid (WqS w0 w B s)) (k i : Int) (hd : (allO s).length ≤ 400) (x : Int) (hx : Hid (errO s ⟨k, i⟩ = x)) :
    Calls Try.prog 18 #[.pointer (some ⟨B, 0, none⟩), .agg #[.int .i64 k, .int .i64 i]] w fun e w' => e = .returned (.int .i64 x) ∧ Below w.heap.size w w' := by
  have B0 := below_alloc w (.cells #[.int .i64 k, .int .i64 i] 33)
  obtain ⟨wv, dv, h⟩ := H.out
  have W1 := h.step B0
  have H1 : Hid (WqS w0 (w.alloc (.cells #[.int .i64 k, .int .i64 i] 33)) B s) := Lib.hid ⟨wv, dv, W1⟩
  obtain ⟨ad, cap, rfl, hnc, hcm, hz, ha⟩ := que_shape h.wq
  obtain ⟨c0, c1, c2, hB⟩ := W1.read
  have T1 := pair_at (heap_alloc_new w (.cells #[.int .i64 k, .int .i64 i] 33))
  obtain ⟨n, hn⟩ : ∃ n, s.wait.length = n := ⟨_, rfl⟩
  rw [hn] at c0
  obtain ⟨c, hc⟩ : ∃ c, s.now = c := ⟨_, rfl⟩
  rw [hc] at c1
  have HL := Lib.hid hn
  have HN := Lib.hid hc
  have BQ := Lib.hid B0
  clear h hz ha W1 hn hc H B0 hnc hcm
  by_cases hk : k = 1 ∨ k = 4 ∨ k = 5
  · have HK := Lib.hid hk
    rcases hk with rfl | rfl | rfl <;> (
      go_enter Try.func18, Try.ntmps18
      go_wp2_with (first
        | (go_at_call 22; (with_reducible refine (checkItem_W H1 _ _ HK.out hd _ hx).mono ?_); rintro e w1 ⟨rfl, h1⟩; have G1 := Lib.hid h1; clear h1)
        | fail)
      go_ret
      exact ⟨rfl, pstep BQ.out G1.out⟩)
  · by_cases k2 : k = 2
    · subst k2
      by_cases hc1 : c = -1
      · subst hc1
        by_cases h0 : n = 0
        · subst h0
          obtain rfl : x = 3 := by
            have : s.wait = [] := List.eq_nil_of_length_eq_zero HL.out
            rw [← hx.out]; simp [errO, HN.out, this]
          go_enter Try.func18, Try.ntmps18
          go_wp2_with fail
          go_ret
          exact ⟨rfl, BQ.out⟩
        · obtain rfl : x = 0 := by
            have : ¬ s.wait = [] := fun e => h0 (by rw [← HL.out, e]; rfl)
            rw [← hx.out]; simp [errO, HN.out, this]
          have h0' : ¬ (n : Int) = 0 := by omega
          go_enter Try.func18, Try.ntmps18
          go_wp2_with fail
          go_ret
          exact ⟨rfl, BQ.out⟩
      · obtain rfl : x = 6 := by rw [← hx.out]; simp [errO, HN.out, hc1]
        have q1 : (c != -1) = true := by simpa using hc1
        go_enter Try.func18, Try.ntmps18
        go_wp2_with fail
        go_ret
        exact ⟨rfl, BQ.out⟩
    · by_cases k3 : k = 3
      · subst k3
        by_cases hc1 : c = -1
        · subst hc1
          obtain rfl : x = 3 := by rw [← hx.out]; simp [errO, HN.out]
          go_enter Try.func18, Try.ntmps18
          go_wp2_with fail
          go_ret
          exact ⟨rfl, BQ.out⟩
        · obtain rfl : x = 0 := by rw [← hx.out]; simp [errO, HN.out, hc1]
          go_enter Try.func18, Try.ntmps18
          go_wp2_with fail
          go_ret
          exact ⟨rfl, BQ.out⟩
      · obtain rfl : x = 5 := by
          have : k < 1 ∨ 5 < k := by omega
          rw [← hx.out]; simp [errO, this]
        have q1 : (k == 1) = false := by simpa using fun e => hk (Or.inl e)
        have q2 : (k == 2) = false := by simpa using k2
        have q3 : (k == 3) = false := by simpa using k3
        have q4 : (k == 4) = false := by simpa using fun e => hk (Or.inr (Or.inl e))
        have q5 : (k == 5) = false := by simpa using fun e => hk (Or.inr (Or.inr e))
        go_enter Try.func18, Try.ntmps18
        go_wp2_with fail
        go_ret
        exact ⟨rfl, BQ.out⟩
end Go.Proofs.Ytlmkbgclogbpfaa
