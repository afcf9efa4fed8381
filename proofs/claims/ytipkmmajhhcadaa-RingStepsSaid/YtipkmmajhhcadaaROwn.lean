/- RingOwn: the walk. -/
import Derived.Test.YtipkmmajhhcadaaRngF
import Derived.Test.YtipkmmajhhcadaaRngO
namespace Go.Proofs.Ytipkmmajhhcadaa
open Go.RowKit

theorem eq_cell2 (x x' : Bool) (y y' : Int) (w : World) : (Op.equalIn 10000 47 (.agg #[.bool x, .int .i64 y]) (.agg #[.bool x', .int .i64 y'])).run Try.prog w = .ok (decide (x = x' ∧ y = y')) w := by
  have e : ∀ (w : World), (Op.equalIn 9999 3 (.int .i64 y) (.int .i64 y')).run Try.prog w = .ok (y == y') w := fun w => by rw [run_equalIn_int w 9998 _ _ _ y y' Try.underlying3]
  have eb : ∀ (w : World), (Op.equalIn 9999 4 (.bool x) (.bool x')).run Try.prog w = .ok (x == x') w := fun w => by rw [run_equalIn_bool w 9998 _ x x' Try.underlying4]
  rw [Op.equalIn]
  simp only [Sem.run_bind, run_underlying Try.underlying47, Result.andThen_ok]
  have hs : Try.prog.stoodInHeld 47 = false := by kernel_rfl
  have p0 : ∀ (x : Bool) (y : Int) (w : World), (part 4 #[.bool x, .int .i64 y] 0).run Try.prog w = .ok (.bool x) w := fun x y w => by simp [part, Try.isAgg4, Sem.run_bind]
  have p1 : ∀ (x : Bool) (y : Int) (w : World), (part 3 #[.bool x, .int .i64 y] 1).run Try.prog w = .ok (.int .i64 y) w := fun x y w => by simp [part, Try.isAgg3, Sem.run_bind]
  by_cases hx : x = x'
  · subst hx
    by_cases hy : y = y'
    · subst hy
      simp [hs, Sem.run_bind, p0, p1, e, eb]
    · have h1 : (y == y') = false := by simpa using hy
      simp [hs, Sem.run_bind, p0, p1, e, eb, hy]
  · have h1 : (x == x') = false := by simpa using hx
    simp [hs, Sem.run_bind, p0, p1, e, eb, hx]
set_option maxHeartbeats 4000000 in
set_option maxRecDepth 100000 in
theorem own_err {ad : Option Addr} {cap n : Nat} {cs : List CeR} (w : World) (H : Hid (shCe.At w ad cap cs)) (hn : Hid (cs.length = n)) (g t k kd d : Int) (x : Int) (HR : Hid (resS n cs g t k ⟨kd, d⟩ = (⟨[], 0, 0, 0⟩, 0, x))) (hx0 : (x != 0) = true) : Calls Try.prog 6 #[.agg #[.slice ad n cap, .int .i64 g, .int .i64 t, .int .i64 k], .agg #[.int .i64 kd, .int .i64 d]] w fun e w' => e = .returned (.bool true) ∧ Below w.heap.size w w' := by
  have P0 := Lib.hid (bp_new w (.slice ad n cap) g t k kd d)
  go_enter Try.func6, Try.ntmps6
  go_upto_region 1 with fail
  generalize (w.alloc (.cells #[.slice ad n cap, .int .i64 g, .int .i64 t, .int .i64 k] 24)).alloc (.cells #[.int .i64 kd, .int .i64 d] 26) = X at P0 ⊢
  go_wp2_with (first
    | (go_at_call 18; (with_reducible refine (alive18_N _).mono ?_); rintro e w1 ⟨rfl, hb⟩; have P1 := Lib.hid (P0.out.step hb); have G1 := four_at P1.out.r; have T1 := pair_at P1.out.o; have l0 := heap_lt P1.out.r; have l1 := heap_lt P1.out.o; have A1 := Lib.hid (H.out.step P1.out.b); clear hb)
    | (go_at_call 8; (with_reducible refine (step_W _ A1 hn g t k kd d 0 [] 0 0 0 0 x HR (Lib.hid rfl)).mono ?_); rintro e w2 ⟨ra, rc, rfl, h2, hb⟩; have P2 := Lib.hid (P1.out.step hb); have A2 := Lib.hid (A1.out.step hb); have N2 := Lib.hid (que_at h2); clear h2 hb)
    | (go_at_call 14; (with_reducible refine (same_R (n := 0) (l := []) _ 0 0 0 (Lib.hid rfl) (Lib.hid (N2.out.step (below_alloc w2 _))) (Lib.hid (Shape.At.nil (S := shCe) _)) (by decide)).mono ?_); rintro e w3 ⟨rfl, hb⟩; have B3 := Lib.hid (pstep (pstep P2.out.b (below_alloc w2 _)) hb); clear hb)
    | fail)
  go_ret
  exact ⟨rfl, B3.out⟩
set_option maxHeartbeats 4000000 in
set_option maxRecDepth 100000 in
theorem own_ok {ad : Option Addr} {cap n : Nat} {cs : List CeR} (w : World) (H : Hid (shCe.At w ad cap cs)) (hn : Hid (cs.length = n)) (g t k kd d : Int) (cs' : List CeR) (g' t' k' : Nat) (y : Int) (HR : Hid (resS n cs g t k ⟨kd, d⟩ = (⟨cs', g', t', k'⟩, y, 0))) (hn' : Hid (cs'.length = n)) (hr : Hid (rgtR n cs' (g' : Int) (t' : Int) (k' : Int) = true)) (hM : n ≤ 64) (i : Nat) (a b : CeR) (hset : Hid (cs' = cs.set i b)) (hia : Hid (cs[i]? = some a)) (hk : (kd = 1 ∧ a.1 = false ∧ b.1 = true) ∨ (kd = 2 ∧ a.1 = true ∧ b.1 = false) ∨ (kd = 3 ∧ a.1 = false ∧ b.1 = false)) : Calls Try.prog 6 #[.agg #[.slice ad n cap, .int .i64 g, .int .i64 t, .int .i64 k], .agg #[.int .i64 kd, .int .i64 d]] w fun e w' => e = .returned (.bool true) ∧ Below w.heap.size w w' := by
  have heq : ∀ (x x' : Bool) (y y' : Int) (w : World), (Op.equalIn 10000 47 (.agg #[.bool x, .int .i64 y]) (.agg #[.bool x', .int .i64 y'])).run Try.prog w = .ok (decide (x = x' ∧ y = y')) w := eq_cell2
  have P0 := Lib.hid (bp_new w (.slice ad n cap) g t k kd d)
  go_enter Try.func6, Try.ntmps6
  go_upto_region 1 with fail
  generalize (w.alloc (.cells #[.slice ad n cap, .int .i64 g, .int .i64 t, .int .i64 k] 24)).alloc (.cells #[.int .i64 kd, .int .i64 d] 26) = X at P0 ⊢
  go_upto_region 4 with (first
    | (go_at_call 18; (with_reducible refine (alive18_N _).mono ?_); rintro e w1 ⟨rfl, hb⟩; have P1 := Lib.hid (P0.out.step hb); have G1 := four_at P1.out.r; have T1 := pair_at P1.out.o; have l0 := heap_lt P1.out.r; have l1 := heap_lt P1.out.o; have A1 := Lib.hid (H.out.step P1.out.b); clear hb)
    | (go_at_call 8; (with_reducible refine (step_W _ A1 hn g t k kd d n cs' g' t' k' y 0 HR hn').mono ?_); rintro e w2 ⟨ra, rc, rfl, h2, hb⟩; have P2 := Lib.hid (P1.out.step hb); have A2 := Lib.hid (A1.out.step hb); have N2 := Lib.hid (que_at h2); clear h2 hb)
    | fail)
  have U2 := Lib.hid (heap_alloc_new w2 (.cells #[.slice ra n rc, .int .i64 (g' : Nat), .int .i64 (t' : Nat), .int .i64 (k' : Nat)] 24))
  have P3 := Lib.hid (P2.out.step (below_alloc w2 (.cells #[.slice ra n rc, .int .i64 (g' : Nat), .int .i64 (t' : Nat), .int .i64 (k' : Nat)] 24)))
  have A3 := Lib.hid (A2.out.step (below_alloc w2 (.cells #[.slice ra n rc, .int .i64 (g' : Nat), .int .i64 (t' : Nat), .int .i64 (k' : Nat)] 24)))
  have N3 := Lib.hid (N2.out.step (below_alloc w2 (.cells #[.slice ra n rc, .int .i64 (g' : Nat), .int .i64 (t' : Nat), .int .i64 (k' : Nat)] 24)))
  clear P0 P1 P2 A1 A2 N2 G1 T1 l0 l1
  generalize w2.alloc (.cells #[.slice ra n rc, .int .i64 (g' : Nat), .int .i64 (t' : Nat), .int .i64 (k' : Nat)] 24) = w3 at U2 P3 A3 N3 ⊢
  generalize w2.heap.size = U at U2 ⊢
  have G3 := four_at P3.out.r
  have K3 := four_at U2.out
  have m0 := heap_lt P3.out.r
  have m2 := heap_lt U2.out
  go_upto_region 10 with (first
    | (go_at_call 13; (with_reducible refine (right_W _ N3 hn' (g' : Int) (t' : Int) (k' : Int) true hr).mono ?_); rintro e w4 ⟨rfl, hb⟩; have P4 := Lib.hid (P3.out.step hb); have U4 := Lib.hid (heap_step U2.out hb); have A4 := Lib.hid (A3.out.step hb); have N4 := Lib.hid (N3.out.step hb); have G4 := four_at P4.out.r; have K4 := four_at U4.out; have T4 := pair_at P4.out.o; have j0 := heap_lt P4.out.r; have j1 := heap_lt P4.out.o; have j2 := heap_lt U4.out; clear hb)
    | fail)
  clear P3 U2 A3 N3 G3 K3 m0 m2
  go_loopw [8, 39] (fun c v wr => ∃ (m j : Nat), m ≤ n ∧ v = .int .i64 m ∧ c = .int .i64 j ∧ j ≤ (if i < m then 1 else 0) ∧ ∃ q, wr = w4.drewN q) (fun _ v _ => n - (intOf v).toNat)
  case atStart => exact ⟨0, 0, Nat.zero_le _, rfl, rfl, Nat.zero_le _, 0, rfl⟩
  case round =>
    obtain ⟨m, j, hm, rfl, rfl, hj, q, rfl⟩ := hrel
    by_cases hlt : m < n
    · obtain ⟨f, hf⟩ : ∃ f, cs[m]? = some f := ⟨cs[m]'(by rw [hn.out]; exact hlt), List.getElem?_eq_getElem _⟩
      by_cases hmi : m = i
      · subst hmi
        obtain rfl : f = a := by rw [hia.out] at hf; exact (Option.some.inj hf).symm
        have hf' : cs'[m]? = some b := by rw [hset.out]; exact List.getElem?_set_self (by rw [hn.out]; exact hlt)
        obtain ⟨bb, off, rfl, hb1, c0, c3⟩ := at_ce A4.out hf
        obtain ⟨bb2, off2, rfl, hb2, e0, e1⟩ := at_ce N4.out hf'
        rw [if_neg (Nat.lt_irrefl _)] at hj
        obtain rfl : j = 0 := by omega
        obtain ⟨x, y'⟩ := f
        obtain ⟨x', z'⟩ := b
        simp only at c0 c3 e0 e1 hk
        by_cases hab : ((x', z') : CeR) = (x, y')
        · obtain ⟨rfl, rfl⟩ := Prod.mk.inj hab
          clear hf hf' hab hk
          go_wp2_with fail
          go_quiet (fail)
          go_wp2_with fail
          go_roundw
          case rel => exact ⟨m + 1, 0, by omega, by go_num, rfl, Nat.zero_le _, _, rfl⟩
          case measure => simp [intOf]; omega
        · have hne : decide (x' = x ∧ z' = y') = false := decide_eq_false (fun q => hab (by rw [q.1, q.2]))
          clear hf hf' hab
          rcases hk with ⟨rfl, rfl, rfl⟩ | ⟨rfl, rfl, rfl⟩ | ⟨rfl, rfl, rfl⟩
          · clear hne
            go_wp2_with fail
            go_quiet (fail)
            go_wp2_with fail
            go_quiet (fail)
            go_wp2_with fail
            go_roundw
            case rel => exact ⟨m + 1, 1, by omega, by go_num, rfl, by rw [if_pos (Nat.lt_succ_self _)]; exact Nat.le_refl _, _, rfl⟩
            case measure => simp [intOf]; omega
          · clear hne
            go_wp2_with fail
            go_quiet (fail)
            go_wp2_with fail
            go_quiet (fail)
            go_wp2_with fail
            go_roundw
            case rel => exact ⟨m + 1, 1, by omega, by go_num, rfl, by rw [if_pos (Nat.lt_succ_self _)]; exact Nat.le_refl _, _, rfl⟩
            case measure => simp [intOf]; omega
          · have hzy : ¬ z' = y' := fun q => of_decide_eq_false hne ⟨rfl, q⟩
            have hzd : decide (z' = y') = false := decide_eq_false hzy
            clear hne
            go_wp2_with fail
            go_quiet (fail)
            go_wp2_with fail
            go_quiet (fail)
            go_wp2_with fail
            go_roundw
            case rel => exact ⟨m + 1, 1, by omega, by go_num, rfl, by rw [if_pos (Nat.lt_succ_self _)]; exact Nat.le_refl _, _, rfl⟩
            case measure => simp [intOf]; omega
      · have hf' : cs'[m]? = some f := by rw [hset.out, List.getElem?_set_ne (fun e => hmi e.symm)]; exact hf
        obtain ⟨bb, off, rfl, hb1, c0, c3⟩ := at_ce A4.out hf
        obtain ⟨bb2, off2, rfl, hb2, e0, e1⟩ := at_ce N4.out hf'
        obtain ⟨x, y'⟩ := f
        simp only at c0 c3 e0 e1
        have hj' : j ≤ (if i < m + 1 then 1 else 0) := by
          by_cases h1 : i < m
          · rw [if_pos h1] at hj
            rw [if_pos (by omega)]
            exact hj
          · rw [if_neg h1] at hj
            omega
        have HJ := Lib.hid hj'
        clear hf hf' hj hj' hk
        go_wp2_with fail
        go_quiet (fail)
        go_wp2_with fail
        go_roundw
        case rel => exact ⟨m + 1, j, by omega, by go_num, rfl, HJ.out, _, rfl⟩
        case measure => simp [intOf]; omega
    · obtain rfl : m = n := by omega
      have hj1 : decide ((j : Int) ≤ 1) = true := decide_eq_true (by split at hj <;> omega)
      clear hlt hm hj hk
      go_wp2_with fail
      go_ret
      exact ⟨rfl, pstep P4.out.b (below_drewN (Below.refl _ _) _)⟩
theorem ringOwn_walk (v v1 : Value) (w : World) (h : ArgRing w v) (h1 : ArgRo w v1) : Calls Try.prog 6 #[v, v1] w fun e w' => e = .returned (.bool true) ∧ Below w.heap.size w w' := by
  obtain ⟨ad, cap, cs, g, t, k, rfl, A1, _⟩ := h
  obtain ⟨⟨kd, d⟩, rfl⟩ := h1
  obtain ⟨⟨⟨cs', g', t', k'⟩, y, x⟩, hR⟩ : ∃ R, resS cs.length cs g t k ⟨kd, d⟩ = R := ⟨_, rfl⟩
  have hR0 := hR
  unfold resS at hR
  cases hr : rgtR cs.length cs g t k with
  | false =>
    rw [if_neg (by simp [hr])] at hR
    simp only [zeroR, Prod.mk.injEq, RiR.mk.injEq] at hR
    obtain ⟨⟨rfl, rfl, rfl, rfl⟩, rfl, rfl⟩ := hR
    exact own_err w (Lib.hid A1) (Lib.hid rfl) g t k kd d 1 (Lib.hid hR0) rfl
  | true =>
    rw [if_pos hr] at hR
    obtain ⟨h64, g0, t0, k0, wk, gv, hT⟩ := (rgt_iff rfl).1 hr
    have hTT : RiR.Tells cs.length ⟨cs, g.toNat, t.toNat, k.toNat⟩ ⟨wk, gv, [], 0⟩ := hT
    have het := err_tie hTT ⟨kd, d⟩
    by_cases h0 : errS cs.length ⟨cs, g.toNat, t.toNat, k.toNat⟩ ⟨kd, d⟩ = 0
    · rw [if_pos h0] at hR
      simp only [Prod.mk.injEq] at hR
      obtain ⟨e1, e2, rfl⟩ := hR
      rw [h0] at het
      obtain ⟨hd1, _⟩ := do_tie hTT ⟨kd, d⟩ het.symm
      obtain ⟨i, a, b, hset, hia, ha, hb⟩ := own_tie hTT ⟨kd, d⟩ het.symm
      rw [e1] at hd1 hset
      simp only at hset hia ha hb
      have hrr := tells_rgt hd1 h64
      have hk : (kd = 1 ∧ a.1 = false ∧ b.1 = true) ∨ (kd = 2 ∧ a.1 = true ∧ b.1 = false) ∨ (kd = 3 ∧ a.1 = false ∧ b.1 = false) := by
        unfold errG at het
        by_cases c0 : kd < 1 ∨ 3 < kd
        · rw [if_pos c0] at het; cases het
        by_cases c1 : kd = 1
        · exact Or.inl ⟨c1, Bool.eq_false_iff.2 (fun q => absurd (ha.1 q) (by omega)), hb.2 c1⟩
        by_cases c2 : kd = 2
        · exact Or.inr (Or.inl ⟨c2, ha.2 c2, Bool.eq_false_iff.2 (fun q => absurd (hb.1 q) (by omega))⟩)
        · exact Or.inr (Or.inr ⟨by omega, Bool.eq_false_iff.2 (fun q => absurd (ha.1 q) (by omega)), Bool.eq_false_iff.2 (fun q => absurd (hb.1 q) (by omega))⟩)
      exact own_ok w (Lib.hid A1) (Lib.hid rfl) g t k kd d cs' g' t' k' y (Lib.hid hR0) (Lib.hid (by rw [hset, List.length_set])) (Lib.hid hrr) h64 i a b (Lib.hid hset) (Lib.hid hia) hk
    · rw [if_neg h0] at hR
      simp only [zeroR, Prod.mk.injEq, RiR.mk.injEq] at hR
      obtain ⟨⟨rfl, rfl, rfl, rfl⟩, rfl, rfl⟩ := hR
      exact own_err w (Lib.hid A1) (Lib.hid rfl) g t k kd d _ (Lib.hid hR0) (by simpa using h0)
end Go.Proofs.Ytipkmmajhhcadaa
