/- GRAHAM'S BOUND: the walk of SpreadGraham. -/
import Derived.Test.YtocemkbplgkalaaSprE
import Derived.Test.YtocemkbplgkalaaSprO
namespace Go.Proofs.Ytocemkbplgkalaa
open Go.RowKit

/-- Numbers that Wrong lets pass. -/
theorem wrong_pass {f : Nat → Int} {n : Nat} {C : Int} (h : wrongV f n C = 0) : ∃ (m : Nat) (ws : Nat → Nat), C = (m : Int) ∧ (0 < m ∧ m ≤ 8 ∧ n ≤ 400) ∧ (∀ i, i < n → ws i ≤ 1073741824) ∧ ∀ i, i < n → f i = (ws i : Int) := by
  obtain ⟨h1, h2, h3, h4⟩ := wrongV_ok h
  refine ⟨C.toNat, fun i => (f i).toNat, by omega, by omega, fun i hi => ?_, fun i hi => ?_⟩
  · have := h4 i hi
    show (f i).toNat ≤ _
    omega
  · have := h4 i hi
    show f i = ((f i).toNat : Int)
    omega
theorem wrong_two {f : Nat → Int} {n : Nat} {C : Int} (h : ¬ wrongV f n C = 0) : wrongV f n C = 2 := by
  unfold wrongV at *
  split
  · rfl
  · rename_i g; rw [if_neg g] at h; exact absurd rfl h
def Yes (W : World) (e : Ending) (w' : World) : Prop := e = .returned (.bool true) ∧ Below W.heap.size W w'
set_option maxHeartbeats 2000000 in
set_option maxRecDepth 100000 in
theorem graham_bad {ad : Option Addr} {cap n : Nat} {f : Nat → Int} (C : Int) (w : World) (HA : Hid (IntAt w ad cap n f)) (hn : n ≤ 9223372036854775807) (hq : Hid (wrongV f n C = 2)) :
    Calls Try.prog 5 #[.slice ad n cap, .int .i64 C] w (Yes w) := by
  go_enter Try.func5, Try.ntmps5
  go_wp2_with (first
    | (go_at_call 19; (with_reducible refine (alive5_R _).mono ?_); rintro e w1 ⟨rfl, hb1⟩; have B1 := Lib.hid hb1; have HA1 := Lib.hid (HA.out.step hb1); clear hb1)
    | (go_at_call 10; (with_reducible refine (list_bad C _ HA1 hn hq).mono ?_); rintro e w2 ⟨rfl, hb2⟩; have B2 := Lib.hid (grow (grow B1.out hb2) (below_al w2 (.cells #[.slice none 0 0, .int .i64 0] 24))); have HA2 := Lib.hid ((HA1.out.step hb2).step (below_al w2 (.cells #[.slice none 0 0, .int .i64 0] 24))); clear hb2)
    | (go_at_call 13; (with_reducible refine (wrong_R C _ HA2 hn 2 hq).mono ?_); rintro e w3 ⟨rfl, rfl⟩)
    | fail)
  go_ret
  exact ⟨rfl, B2.out⟩
section
variable {ws : Nat → Nat} {m n : Nat}
theorem most_bound (hn : n ≤ 400) (hw : ∀ i, i < n → ws i ≤ 1073741824) {O : Nat → Nat} (hO : ∀ i, i < n → O i < n) : mostP ws m O n ≤ 429496729600 := by
  refine maxF_le fun c _ => ?_
  have h1 := load_le (m := m) hw hO n (Nat.le_refl _) c
  have h2 : n * 1073741824 ≤ 400 * 1073741824 := Nat.mul_le_mul_right _ hn
  omega
theorem tot_bound (hn : n ≤ 400) (hw : ∀ i, i < n → ws i ≤ 1073741824) : sumF ws n ≤ 429496729600 := by
  have h1 := sum_bound hw
  have h2 : n * 1073741824 ≤ 400 * 1073741824 := Nat.mul_le_mul_right _ hn
  omega
theorem graham_most (hm : 0 < m) : mostP ws m (fun i => i) n * m ≤ sumF ws n + (m - 1) * maxF ws n := by
  obtain ⟨c, _, hc⟩ := maxF_mem (planP ws m (fun i => i) n).1 hm
  rw [mostP, hc, Nat.mul_comm]
  exact graham hm (fun i hi => maxF_ge hi) c
theorem plans_max {v : Nat} {A : Nat → Nat} (h : Plans ws m n v A) : maxF ws n ≤ v := maxF_le fun _ hi => plans_piece h hi
theorem graham_best {v : Nat} (hm : 0 < m) (h : IsBest ws m n v) : mostP ws m (fun i => i) n * m ≤ v * (2 * m - 1) := by
  obtain ⟨A, hA⟩ := h.1
  have h1 := graham_most (ws := ws) (n := n) hm
  have h2 := plans_total hA
  have h3 := plans_max hA
  have h4 : (m - 1) * maxF ws n ≤ (m - 1) * v := Nat.mul_le_mul_left _ h3
  obtain ⟨q, rfl⟩ : ∃ q, m = q + 1 := ⟨m - 1, by omega⟩
  rw [Nat.add_sub_cancel] at h1 h4
  have h5 : v * (2 * (q + 1) - 1) = q * v + (q + 1) * v := by rw [show 2 * (q + 1) - 1 = q + (q + 1) by omega, Nat.mul_add, Nat.mul_comm v q, Nat.mul_comm v (q + 1)]
  rw [h5]; omega
theorem most_zero : mostP ws m (fun i => i) 0 = 0 := Nat.le_antisymm (maxF_le fun _ _ => Nat.le_refl _) (Nat.zero_le _)
end
set_option maxHeartbeats 2000000 in
set_option maxRecDepth 100000 in
theorem graham_none {ad : Option Addr} {cap m : Nat} {ws : Nat → Nat} (w : World) (HA : Hid (IntAt w ad cap 0 (fun i => (ws i : Int)))) (hm : 0 < m) (hm8 : m ≤ 8) (hw : Hid (∀ i, i < 0 → ws i ≤ 1073741824)) (hq : Hid (wrongV (fun i => (ws i : Int)) 0 m = 0)) :
    Calls Try.prog 5 #[.slice ad 0 cap, .int .i64 (m : Int)] w (Yes w) := by
  have i0 : 0 ≤ 400 := by omega
  have i1 : 0 ≤ 9223372036854775807 := by omega
  have HM := Lib.hid (most_zero (ws := ws) (m := m))
  go_enter Try.func5, Try.ntmps5
  go_wp2_with (first
    | (go_at_call 19; (with_reducible refine (alive5_R _).mono ?_); rintro e w1 ⟨rfl, hb1⟩; have B1 := Lib.hid hb1; have HA1 := Lib.hid (HA.out.step hb1); clear hb1)
    | (go_at_call 10; (with_reducible refine (list_ok _ HA1 i0 hm hm8 hw hq).mono ?_); rintro e w2 ⟨B, he, hr, hB, hb2⟩; rw [HM.out] at he; subst he; have B2 := Lib.hid (grow (grow B1.out hb2) (below_al w2 (.cells #[.slice (some ⟨B, 0, none⟩) 0 0, .int .i64 0] 24))); have HA2 := Lib.hid ((HA1.out.step hb2).step (below_al w2 (.cells #[.slice (some ⟨B, 0, none⟩) 0 0, .int .i64 0] 24))); clear hb2 hr hB)
    | (go_at_call 13; (with_reducible refine (wrong_R (m : Int) _ HA2 i1 0 hq).mono ?_); rintro e w3 ⟨rfl, rfl⟩)
    | fail)
  go_ret
  exact ⟨rfl, B2.out⟩
set_option maxHeartbeats 2000000 in
set_option maxRecDepth 100000 in
theorem graham_some {ad : Option Addr} {cap n m : Nat} {ws : Nat → Nat} (w : World) (HA : Hid (IntAt w ad cap n (fun i => (ws i : Int)))) (h0 : 0 < n) (hn : n ≤ 400) (hm : 0 < m) (hm8 : m ≤ 8) (hw : Hid (∀ i, i < n → ws i ≤ 1073741824)) (hq : Hid (wrongV (fun i => (ws i : Int)) n m = 0)) :
    Calls Try.prog 5 #[.slice ad n cap, .int .i64 (m : Int)] w (Yes w) := by
  obtain ⟨qb, qo, rfl, hqb, hcw⟩ := HA.out.2 h0
  clear hcw
  have hgm := graham_most (ws := ws) (n := n) hm
  have hgb := fun v => graham_best (ws := ws) (n := n) (m := m) (v := v) hm
  have hb1 := most_bound (m := m) (O := fun i => i) hn hw.out (fun _ h => h)
  have hb2 := tot_bound hn hw.out
  have hmxb : maxF ws n ≤ 1073741824 := maxF_le hw.out
  obtain ⟨mo, hmo⟩ : ∃ q, mostP ws m (fun i => i) n = q := ⟨_, rfl⟩
  obtain ⟨tt, htt⟩ : ∃ q, sumF ws n = q := ⟨_, rfl⟩
  obtain ⟨mx, hmx⟩ : ∃ q, maxF ws n = q := ⟨_, rfl⟩
  obtain ⟨P, hP⟩ : ∃ q, mo * m = q := ⟨_, rfl⟩
  obtain ⟨X, hX⟩ : ∃ q, (m - 1) * mx = q := ⟨_, rfl⟩
  obtain ⟨k, hk⟩ : ∃ q, m - 1 = q := ⟨_, rfl⟩
  obtain ⟨Y, hY⟩ : ∃ q, tt + X = q := ⟨_, rfl⟩
  rw [hmo, htt, hmx, hP, hX, hY] at hgm
  simp only [hmo, hP] at hgb
  rw [hmo] at hb1
  rw [htt] at hb2
  rw [hmx] at hmxb
  rw [hk] at hX
  have hPb : P ≤ 429496729600 * 8 := by rw [← hP]; exact Nat.mul_le_mul hb1 hm8
  have hXb : X ≤ 8 * 1073741824 := by rw [← hX]; exact Nat.mul_le_mul (by omega) hmxb
  have e1 : IntKind.i64.wrap ((mo : Int) * (m : Int)) = (P : Int) := by rw [← Int.natCast_mul, hP]; exact IntWalk.i64_in _ (by omega)
  have e2 : IntKind.i64.wrap ((m : Int) - 1) = (k : Int) := by rw [IntWalk.i64_in _ (by omega)]; omega
  have e3 : IntKind.i64.wrap ((k : Int) * (mx : Int)) = (X : Int) := by rw [← Int.natCast_mul, hX]; exact IntWalk.i64_in _ (by omega)
  have e4 : IntKind.i64.wrap ((tt : Int) + (X : Int)) = (Y : Int) := by rw [IntWalk.i64_in _ (by omega)]; omega
  have t1 : decide ((Y : Int) < (P : Int)) = false := decide_eq_false (by omega)
  have HE := Lib.hid (And.intro e1 (And.intro e2 (And.intro e3 e4)))
  have HMO := Lib.hid hmo
  have HTT := Lib.hid htt
  have HMX := Lib.hid hmx
  have HGB := Lib.hid hgb
  have HP := Lib.hid hP
  have HT1 := Lib.hid t1
  have n1000 : n ≤ 1000 := by omega
  have ttb : tt ≤ 4611686018427387904 := by omega
  have hnz : ¬ n = 0 := by omega
  clear hmo htt hmx hP hX hk hY e1 e2 e3 e4 hgb t1
  go_enter Try.func5, Try.ntmps5
  go_wp2_with (first
    | (go_at_call 19; (with_reducible refine (alive5_R _).mono ?_); rintro e w1 ⟨rfl, hb1⟩; have B1 := Lib.hid hb1; have HA1 := Lib.hid (HA.out.step hb1); clear hb1)
    | (go_at_call 10; (with_reducible refine (list_ok _ HA1 hn hm hm8 hw hq).mono ?_); rintro e w2 ⟨B, he, hr, hB, hb2⟩; rw [HMO.out] at he; subst he; have B2 := Lib.hid (grow (grow B1.out hb2) (below_al w2 (.cells #[.slice (some ⟨B, 0, none⟩) n n, .int .i64 (mo : Int)] 24))); have HA2 := Lib.hid ((HA1.out.step hb2).step (below_al w2 (.cells #[.slice (some ⟨B, 0, none⟩) n n, .int .i64 (mo : Int)] 24))); clear hb2 hr hB)
    | fail)
  have ca1 : (w2.alloc (.cells #[.slice (some ⟨B, 0, none⟩) n n, .int .i64 (mo : Int)] 24)).cell? ⟨w2.heap.size, 1, none⟩ = some (.int .i64 (mo : Int)) := by rw [cell_of_row _ _ 1 _ _ _ (heap_alloc_new w2 _)]; rfl
  generalize w2.alloc (.cells #[.slice (some ⟨B, 0, none⟩) n n, .int .i64 (mo : Int)] 24) = w4 at ca1 HA2 B2 ⊢
  have HAQ : Hid (∀ q, IntAt (w4.drewN q) (some ⟨qb, qo, none⟩) cap n (fun i => (ws i : Int))) := Lib.hid fun q => HA2.out.step (below_drewN (Below.refl _ _) q)
  have HMQ : Hid (∀ q i, i < n → (w4.drewN q).cell? ⟨qb, qo + i, none⟩ = some (.int .i64 (ws i : Int))) := Lib.hid fun q i hi => by
    obtain ⟨b2, o2, e, _, hc⟩ := (HAQ.out q).2 h0
    simp only [Option.some.injEq, Addr.mk.injEq, and_true] at e
    obtain ⟨rfl, rfl⟩ := e
    exact hc i hi
  obtain ⟨e1, e2, e3, e4⟩ := HE.out
  have t1 := HT1.out
  go_quiet ((first
    | (go_at_call 20; exact Calls.quiet_of_same ((total_R _ (Lib.hid (HAQ.out _)) hn tt HTT ttb).mono (fun _ _ h => ⟨h.1, h.2.symm⟩)))
    | (go_at_call 21; exact Calls.quiet_of_same ((max_R _ (Lib.hid (HMQ.out _)) h0 n1000 mx HMX).mono (fun _ _ h => ⟨h.1, h.2.symm⟩)))))
  clear e1 e2 e3 e4
  have HA5 := Lib.hid (HAQ.out nq)
  have B5 := Lib.hid (below_drewN B2.out nq)
  have ca5 : (w4.drewN nq).cell? ⟨w2.heap.size, 1, none⟩ = some (.int .i64 (mo : Int)) := ca1
  clear ca1 HAQ HMQ HA2 B2
  generalize w4.drewN nq = w5 at HA5 B5 ca5 ⊢
  have hlt5 := block_lt_of_cell ca5
  simp only at hlt5
  by_cases h9 : n ≤ 9
  · go_wp2_with fail
    go_at_call 17
    have m9 : m ≤ 9 := by omega
    (with_reducible refine (best_ok _ HA5 h9 hm m9 hw hq).mono ?_)
    rintro e w6 ⟨v, hv, hv2, rfl, hb6⟩
    have B6 := Lib.hid (grow B5.out hb6)
    have ca6 : w6.cell? ⟨w2.heap.size, 1, none⟩ = some (.int .i64 (mo : Int)) := (hb6.cell (p := ⟨w2.heap.size, 1, none⟩) hlt5).trans ca5
    have hgv := HGB.out v hv
    obtain ⟨z, hz⟩ : ∃ z, 2 * m - 1 = z := ⟨_, rfl⟩
    obtain ⟨V, hV⟩ : ∃ V, v * z = V := ⟨_, rfl⟩
    rw [hz, hV] at hgv
    have hVb : V ≤ 9663676416 * 16 := by rw [← hV]; exact Nat.mul_le_mul hv2 (by omega)
    have p1 : (mo : Int) * (m : Int) = (P : Int) := by rw [← Int.natCast_mul, HP.out]
    have p2 : 2 * (m : Int) - 1 = (z : Int) := by omega
    have p3 : (v : Int) * (z : Int) = (V : Int) := by rw [← Int.natCast_mul, hV]
    have t2 : decide ((P : Int) ≤ (V : Int)) = true := decide_eq_true (by omega)
    clear hb6 hv hz hV
    go_wp2_with fail
    go_ret
    exact ⟨rfl, B6.out⟩
  · go_wp2_with fail
    go_at_call 17
    have n9 : n ≤ 9223372036854775807 := by omega
    have h9' : 9 < n := by omega
    (with_reducible refine (best_full (m : Int) _ HA5 n9 h9' hq).mono ?_)
    rintro e w6 ⟨rfl, rfl⟩
    go_wp2_with fail
    go_ret
    exact ⟨rfl, B5.out⟩
theorem spreadGraham_walk (v : Value) (C : Int) (w : World) (g : ArgI w v) : Calls Try.prog 5 #[v, .int .i64 C] w (Yes w) := by
  obtain ⟨ad, n, cap, f, rfl, hn, HA⟩ := g
  by_cases hq : wrongV f n C = 0
  · obtain ⟨m, ws, rfl, ⟨h1, h2, h3⟩, h4, h5⟩ := wrong_pass hq
    have HA2 : Hid (IntAt w ad cap n (fun i => (ws i : Int))) := Lib.hid (HA.congr fun i hi => (h5 i hi).symm)
    have hz := wrong_zero h3 h1 h2 h4
    by_cases h0 : n = 0
    · subst h0
      exact graham_none w HA2 h1 h2 (Lib.hid h4) (Lib.hid hz)
    · exact graham_some w HA2 (by omega) h3 h1 h2 (Lib.hid h4) (Lib.hid hz)
  · exact graham_bad C w (Lib.hid HA) hn (Lib.hid (wrong_two hq))
end Go.Proofs.Ytocemkbplgkalaa
