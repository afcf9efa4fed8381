/- No plan is better than the best: the walk of SpreadLeast. -/
import Derived.Test.YtocemkbplgkalaaSprTh
namespace Go.Proofs.Ytocemkbplgkalaa
open Go.RowKit

set_option maxHeartbeats 2000000 in
set_option maxRecDepth 100000 in
theorem least_no {ad : Option Addr} {cap n : Nat} {f : Nat → Int} (C : Int) (w : World) (HA : Hid (IntAt w ad cap n f)) (q : Int) (hq0 : ¬ q = 0) (hB : ∀ W, Hid (IntAt W ad cap n f) → Calls Try.prog 17 #[.slice ad n cap, .int .i64 C] W (BestNo q W)) :
    Calls Try.prog 8 #[.slice ad n cap, .int .i64 C] w (Yes w) := by
  have HB := Lib.hid hB
  have hq1 : (q == 0) = false := beq_eq_false_iff_ne.2 hq0
  clear hB
  go_enter Try.func8, Try.ntmps8
  go_wp2_with (first
    | (go_at_call 19; (with_reducible refine (alive5_R _).mono ?_); rintro e w1 ⟨rfl, hb1⟩; have B1 := Lib.hid hb1; have HA1 := Lib.hid (HA.out.step hb1); clear hb1)
    | (go_at_call 17; (with_reducible refine (HB.out _ HA1).mono ?_); rintro e w3 ⟨rfl, rfl⟩)
    | fail)
  go_ret
  exact ⟨rfl, B1.out⟩
theorem least_plan {ws O : Nat → Nat} {m n v : Nat} (hm : 0 < m) (hp : Perm O n) (h : IsBest ws m n v) : v ≤ mostP ws m O n := by
  have := fun g => h.2 _ _ g (plan_plans hm hp)
  apply Classical.byContradiction
  intro k
  exact this (by omega)
theorem least_tot {ws : Nat → Nat} {m n v : Nat} (h : IsBest ws m n v) : sumF ws n ≤ v * m ∧ maxF ws n ≤ v := by
  obtain ⟨A, hA⟩ := h.1
  rw [Nat.mul_comm]
  exact ⟨plans_total hA, plans_max hA⟩
theorem least_more {ws : Nat → Nat} {m n v u : Nat} (h : IsBest ws m n v) (k : IsBest ws (m + 1) n u) : u ≤ v := by
  obtain ⟨A, hA⟩ := h.1
  apply Classical.byContradiction
  intro g
  exact k.2 v A (by omega) (plans_more hA)
theorem wrong_more {n m : Nat} {ws : Nat → Nat} (h : 8 < m + 1) : wrongV (fun i => (ws i : Int)) n ((m : Int) + 1) = 2 := by
  unfold wrongV
  rw [if_pos]
  right; left; omega
set_option maxHeartbeats 4000000 in
set_option maxRecDepth 100000 in
theorem least_ok {ad : Option Addr} {cap n m : Nat} {ws : Nat → Nat} (w : World) (HA : Hid (IntAt w ad cap n (fun i => (ws i : Int)))) (h9 : n ≤ 9) (hm : 0 < m) (hm8 : m ≤ 8) (hw : Hid (∀ i, i < n → ws i ≤ 1073741824)) (hq : Hid (wrongV (fun i => (ws i : Int)) n m = 0)) :
    Calls Try.prog 8 #[.slice ad n cap, .int .i64 (m : Int)] w (Yes w) := by
  have hn : n ≤ 400 := by omega
  have m9 : m ≤ 9 := by omega
  go_enter Try.func8, Try.ntmps8
  go_wp2_with (first
    | (go_at_call 19; (with_reducible refine (alive5_R _).mono ?_); rintro e w1 ⟨rfl, hb1⟩; have B1 := Lib.hid hb1; have HA1 := Lib.hid (HA.out.step hb1); clear hb1)
    | fail)
  go_at_call 17
  (with_reducible refine (best_ok _ HA1 h9 hm m9 hw hq).mono ?_)
  rintro e w2 ⟨v, hv, hv2, rfl, hb2⟩
  have B2 := Lib.hid (grow B1.out hb2)
  have HA2 := Lib.hid (HA1.out.step hb2)
  have HV := Lib.hid hv
  clear hb2 hv HA1 B1
  go_wp2_with fail
  go_at_call 10
  (with_reducible refine (list_ok _ HA2 hn hm hm8 hw hq).mono ?_)
  rintro e w3 ⟨Ba, he, hr, hB, hb3⟩
  have l1 := least_plan hm (perm_id n) HV.out
  have l1b := most_bound (m := m) (O := fun i => i) hn hw.out (fun _ h => h)
  obtain ⟨ma, hma⟩ : ∃ q, mostP ws m (fun i => i) n = q := ⟨_, rfl⟩
  rw [hma] at he l1 l1b
  subst he
  have B3 := Lib.hid (grow (grow B2.out hb3) (below_al w3 (boxP Ba n ma)))
  have HA3 := Lib.hid ((HA2.out.step hb3).step (below_al w3 (boxP Ba n ma)))
  have ca1 := box_most w3 Ba n ma
  clear hb3 hr hB hma HA2 B2
  go_wp2_with fail
  change Calls _ _ _ (w3.alloc (boxP Ba n ma)) _
  generalize w3.alloc (boxP Ba n ma) = w4 at ca1 HA3 B3 ⊢
  have lt4 := block_lt_of_cell ca1
  simp only at lt4
  (with_reducible refine (long_ok _ HA3 hn hm hm8 hw hq).mono ?_)
  rintro e w5 ⟨O, hp, hs, Bb, he, hr, hB, hb5⟩
  have l2 := least_plan hm hp HV.out
  have l2b := most_bound (m := m) hn hw.out hp.1
  obtain ⟨mb, hmb⟩ : ∃ q, mostP ws m O n = q := ⟨_, rfl⟩
  rw [hmb] at he l2 l2b
  subst he
  have B5 := Lib.hid (grow (grow B3.out hb5) (below_al w5 (boxP Bb n mb)))
  have HA5 := Lib.hid ((HA3.out.step hb5).step (below_al w5 (boxP Bb n mb)))
  have cb1 := box_most w5 Bb n mb
  have ca5 : (w5.alloc (boxP Bb n mb)).cell? ⟨w3.heap.size, 1, none⟩ = some (.int .i64 (ma : Int)) := ((grow hb5 (below_al w5 (boxP Bb n mb))).cell (p := ⟨w3.heap.size, 1, none⟩) lt4).trans ca1
  have ne5 : ¬ w3.heap.size = w5.heap.size := by have := hb5.size; omega
  clear hb5 hr hB hmb HA3 B3 hp hs ca1
  obtain ⟨l3, l4⟩ := least_tot HV.out
  obtain ⟨tt, htt⟩ : ∃ q, sumF ws n = q := ⟨_, rfl⟩
  obtain ⟨mx, hmx⟩ : ∃ q, maxF ws n = q := ⟨_, rfl⟩
  obtain ⟨V, hV⟩ : ∃ V, v * m = V := ⟨_, rfl⟩
  have ttb : tt ≤ 4611686018427387904 := by have := tot_bound hn hw.out; omega
  rw [htt, hV] at l3
  rw [hmx] at l4
  have hVb : V ≤ 9663676416 * 8 := by rw [← hV]; exact Nat.mul_le_mul hv2 hm8
  have HTT := Lib.hid htt
  have HMX := Lib.hid hmx
  have p1 : (v : Int) * (m : Int) = (V : Int) := by rw [← Int.natCast_mul, hV]
  clear htt hmx hV
  have n1000 : n ≤ 1000 := by omega
  have q1 : ¬ ma < v := by omega
  have q2 : ¬ mb < v := by omega
  have q3 : ¬ V < tt := by omega
  have q4 : ¬ v < mx := by omega
  have eM : Hid ((m : Int) + 1 = ((m + 1 : Nat) : Int)) := Lib.hid (by omega)
  by_cases h0 : 0 < n
  · obtain ⟨qb, qo, rfl, hqb, hcc⟩ := HA5.out.2 h0
    have HMC := Lib.hid hcc
    unfold boxP at HMC
    clear hcc
    unfold boxP at ca5 cb1 HA5 B5
    go_wp2_with (first
      | (go_at_call 20; (with_reducible refine (total_R _ HA5 hn tt HTT ttb).mono ?_); rintro e w6 ⟨rfl, rfl⟩)
      | (go_at_call 21; (with_reducible refine (max_R _ HMC h0 n1000 mx HMX).mono ?_); rintro e w6 ⟨rfl, rfl⟩)
      | fail)
    by_cases h8 : m < 8
    · have m9' : m + 1 ≤ 9 := by omega
      have m0' : 0 < m + 1 := by omega
      have m8' : m + 1 ≤ 8 := by omega
      go_at_call 17
      (with_reducible refine (best_M (m := m + 1) _ _ eM HA5 h9 m0' m8' hw).mono ?_)
      rintro e w7 ⟨u, hu, hu2, rfl, hb7⟩
      have hle := least_more HV.out hu
      have B7 := Lib.hid (grow B5.out hb7)
      have t9 : decide ((u : Int) ≤ (v : Int)) = true := decide_eq_true (by omega)
      clear hb7 hu
      go_wp2_with fail
      go_ret
      exact ⟨rfl, B7.out⟩
    · have hq2 := Lib.hid (wrong_more (n := n) (m := m) (ws := ws) (by omega))
      have n9 : n ≤ 9223372036854775807 := by omega
      go_at_call 17
      (with_reducible refine (best_bad _ _ HA5 n9 hq2).mono ?_)
      rintro e w7 ⟨rfl, rfl⟩
      go_wp2_with fail
      go_ret
      exact ⟨rfl, B5.out⟩
  · obtain rfl : n = 0 := by omega
    clear h0
    unfold boxP at ca5 cb1 HA5 B5
    go_wp2_with (first
      | (go_at_call 20; (with_reducible refine (total_R _ HA5 hn tt HTT ttb).mono ?_); rintro e w6 ⟨rfl, rfl⟩)
      | fail)
    by_cases h8 : m < 8
    · have m9' : m + 1 ≤ 9 := by omega
      have m0' : 0 < m + 1 := by omega
      have m8' : m + 1 ≤ 8 := by omega
      go_at_call 17
      (with_reducible refine (best_M (m := m + 1) _ _ eM HA5 h9 m0' m8' hw).mono ?_)
      rintro e w7 ⟨u, hu, hu2, rfl, hb7⟩
      have hle := least_more HV.out hu
      have B7 := Lib.hid (grow B5.out hb7)
      have t9 : decide ((u : Int) ≤ (v : Int)) = true := decide_eq_true (by omega)
      clear hb7 hu
      go_wp2_with fail
      go_ret
      exact ⟨rfl, B7.out⟩
    · have hq2 := Lib.hid (wrong_more (n := 0) (m := m) (ws := ws) (by omega))
      have n9 : 0 ≤ 9223372036854775807 := by omega
      go_at_call 17
      (with_reducible refine (best_bad _ _ HA5 n9 hq2).mono ?_)
      rintro e w7 ⟨rfl, rfl⟩
      go_wp2_with fail
      go_ret
      exact ⟨rfl, B5.out⟩
theorem spreadLeast_walk (v : Value) (C : Int) (w : World) (g : ArgI w v) : Calls Try.prog 8 #[v, .int .i64 C] w (Yes w) := by
  obtain ⟨ad, n, cap, f, rfl, hn, HA⟩ := g
  by_cases hq : wrongV f n C = 0
  · by_cases h9 : n ≤ 9
    · obtain ⟨m, ws, rfl, ⟨h1, h2, h3⟩, h4, h5⟩ := wrong_pass hq
      exact least_ok w (Lib.hid (HA.congr fun i hi => (h5 i hi).symm)) h9 h1 h2 (Lib.hid h4) (Lib.hid (wrong_zero h3 h1 h2 h4))
    · exact least_no C w (Lib.hid HA) 4 (by decide) fun W h => best_full C W h hn (by omega) (Lib.hid hq)
  · exact least_no C w (Lib.hid HA) 2 (by decide) fun W h => best_bad C W h hn (Lib.hid (wrong_two hq))
end Go.Proofs.Ytocemkbplgkalaa
