/- RingSteps: the walk. -/
import Derived.Test.YtipkmmajhhcadaaRst
import Derived.Test.YtipkmmajhhcadaaRPls
namespace Go.Proofs.Ytipkmmajhhcadaa
open Go.RowKit

/-- corebellref.RStep, at every ring and operation. -/
theorem rstep_W {ad : Option Addr} {cap n : Nat} {cs : List CeR} (w : World) (H : Hid (shCe.At w ad cap cs)) (hn : Hid (cs.length = n)) (hnb : n ≤ 8796093022208) (g t k kd d : Int) (N : Nat) (cs' : List CeR) (g' t' k' : Nat) (y x : Int) (HR : Hid (resS n cs g t k ⟨kd, d⟩ = (⟨cs', g', t', k'⟩, y, x))) (hN : Hid (cs'.length = N)) : Calls Try.prog 9 #[.agg #[.slice ad n cap, .int .i64 g, .int .i64 t, .int .i64 k], .agg #[.int .i64 kd, .int .i64 d]] w (RStepOut w N cs' g' t' k' y x) := by
  have hR := HR.out
  have hN' := hN.out
  unfold resS at hR
  cases hr : rgtR n cs g t k with
  | false =>
    rw [if_neg (by simp [hr])] at hR
    simp only [zeroR, Prod.mk.injEq, RiR.mk.injEq] at hR
    obtain ⟨⟨rfl, rfl, rfl, rfl⟩, rfl, rfl⟩ := hR
    subst hN'
    exact rstep_form w H hn hnb g t k kd d false rfl 0 0 (Lib.hid hr) (Lib.hid (fun h => by cases h)) (Lib.hid (fun _ => ⟨rfl, rfl⟩))
  | true =>
    rw [if_pos hr] at hR
    have hT := (rgt_iff hn.out).1 hr
    obtain ⟨h1, h2, ⟨g0, g1⟩, ⟨t0, t1⟩, ⟨k0, k1⟩⟩ := rgt_parts hr
    obtain ⟨gn, rfl⟩ : ∃ gn : Nat, g = gn := ⟨g.toNat, by omega⟩
    obtain ⟨tn, rfl⟩ : ∃ tn : Nat, t = tn := ⟨t.toNat, by omega⟩
    obtain ⟨kn, rfl⟩ : ∃ kn : Nat, k = kn := ⟨k.toNat, by omega⟩
    simp only [Int.toNat_natCast] at hR hT
    obtain ⟨_, _, _, _, wk, gv, hT⟩ := hT
    have hg : gn < n := by omega
    have ht : tn < n := by omega
    have hk : kn < n := by omega
    obtain ⟨_, _, q1, q2, hle, _⟩ := ring_rgt hT
    have hsum := ds_sum ht hk hg hle
    have hroom := hT.room
    have hl := hn.out
    have hqn : dsR n tn gn < n := ds_lt ht hg
    have hz1 : dsR n kn gn = 0 ↔ kn = gn := ⟨ds_zero hk, fun e => by rw [e, ds_self]⟩
    have hz2 : dsR n tn kn = 0 ↔ tn = kn := ⟨ds_zero ht, fun e => by rw [e, ds_self]⟩
    have D1 : Hid (true = true → dsR n tn kn = dsR n (tn : Int).toNat (kn : Int).toNat ∧ dsR n kn gn = dsR n (kn : Int).toNat (gn : Int).toNat) := Lib.hid (fun _ => ⟨rfl, rfl⟩)
    have D0 : Hid (true = false → dsR n tn kn = 0 ∧ dsR n kn gn = 0) := Lib.hid (fun h => by cases h)
    by_cases h0 : errS n ⟨cs, gn, tn, kn⟩ ⟨kd, d⟩ = 0
    · rw [if_pos h0] at hR
      simp only [Prod.mk.injEq] at hR
      obtain ⟨e1, e2, rfl⟩ := hR
      have hll := do_len (n := n) ⟨cs, gn, tn, kn⟩ ⟨kd, d⟩
      rw [e1] at hll
      simp only at hll
      obtain rfl : N = n := by rw [← hN', hll, hl]
      unfold errS at h0
      unfold doS at e1
      unfold gotS at e2
      simp only at h0 e1 e2
      by_cases c0 : kd < 1 ∨ 3 < kd
      · rw [if_pos c0] at h0; cases h0
      rw [if_neg c0] at h0
      by_cases c1 : kd = 1
      · subst c1
        rw [if_pos rfl] at h0 e1
        rw [if_neg (show ¬ (1 : Int) = 3 by decide)] at e2
        have hc : ¬ dsR N tn gn = N - 1 := fun e => by
          rw [if_pos (by omega)] at h0; cases h0
        obtain ⟨a, ha⟩ := at_some (l := cs) (i := gn) (by omega)
        cases e1
        subst e2
        exact rstep_give w H hn hnb _ _ _ d h2 hg hk _ _ _ (Lib.hid rfl) (Lib.hid rfl) hsum.symm hqn (N - 1) (by omega) true rfl _ _ (Lib.hid hr) D1 D0 rfl rfl hc a (Lib.hid ha) _ rfl
      rw [if_neg c1] at h0 e1
      by_cases c2 : kd = 2
      · subst c2
        rw [if_pos rfl] at h0 e1
        rw [if_neg (show ¬ (2 : Int) = 3 by decide)] at e2
        have hc : ¬ dsR N kn gn = 0 := fun e => by
          rw [if_pos (hz1.1 e)] at h0; cases h0
        obtain ⟨a, ha⟩ := at_some (l := cs) (i := kn) (by omega)
        rw [ha, Option.getD_some] at e1
        cases e1
        subst e2
        exact rstep_work w H hn hnb _ _ _ d h2 hk _ _ _ (Lib.hid rfl) (Lib.hid rfl) hsum.symm hqn (N - 1) (by omega) true rfl _ _ (Lib.hid hr) D1 D0 rfl rfl hc a (Lib.hid ha) _ rfl _ (Lib.hid rfl)
      rw [if_neg c2] at h0 e1
      obtain rfl : kd = 3 := by omega
      rw [if_pos rfl] at e2
      have hc : ¬ dsR N tn kn = 0 := fun e => by
        rw [if_pos (hz2.1 e)] at h0; cases h0
      obtain ⟨a, ha⟩ := at_some (l := cs) (i := tn) (by omega)
      rw [ha, Option.getD_some] at e2
      cases e1
      subst e2
      exact rstep_take w H hn hnb _ _ _ d h2 ht hk _ _ _ (Lib.hid rfl) (Lib.hid rfl) hsum.symm hqn (N - 1) (by omega) true rfl _ _ (Lib.hid hr) D1 D0 rfl rfl hc a (Lib.hid ha) _ rfl
    · rw [if_neg h0] at hR
      simp only [zeroR, Prod.mk.injEq, RiR.mk.injEq] at hR
      obtain ⟨⟨rfl, rfl, rfl, rfl⟩, rfl, rfl⟩ := hR
      subst hN'
      refine rstep_err w H hn hnb gn tn kn kd d h2 _ _ _ (Lib.hid rfl) (Lib.hid rfl) hsum.symm hqn (n - 1) (by omega) true rfl _ _ (Lib.hid hr) D1 D0 rfl rfl _ ?_
      unfold errS at h0 ⊢
      simp only at h0 ⊢
      by_cases c0 : kd < 1 ∨ 3 < kd
      · exact Or.inl ⟨c0, if_pos c0⟩
      rw [if_neg c0] at h0 ⊢
      by_cases c1 : kd = 1
      · rw [if_pos c1] at h0 ⊢
        by_cases hf : dsR n tn gn + 1 = n
        · exact Or.inr (Or.inl ⟨c1, by omega, if_pos hf⟩)
        · rw [if_neg hf] at h0; exact absurd rfl h0
      rw [if_neg c1] at h0 ⊢
      by_cases c2 : kd = 2
      · rw [if_pos c2] at h0 ⊢
        by_cases hf : kn = gn
        · exact Or.inr (Or.inr (Or.inl ⟨c2, hz1.2 hf, if_pos hf⟩))
        · rw [if_neg hf] at h0; exact absurd rfl h0
      rw [if_neg c2] at h0 ⊢
      by_cases hf : tn = kn
      · exact Or.inr (Or.inr (Or.inr ⟨by omega, hz2.2 hf, if_pos hf⟩))
      · rw [if_neg hf] at h0; exact absurd rfl h0
/-- How many cells a new ring has, and the error. -/
def cellsN (x : Int) : Nat := if 2 ≤ x ∧ x ≤ 64 then x.toNat else 0
def errC (x : Int) : Int := if 2 ≤ x ∧ x ≤ 64 then 0 else 2
theorem new_N (x : Int) (w : World) (M : Nat) (hM : Hid (cellsN x = M)) (c : Int) (hc : Hid (errC x = c)) : Calls Try.prog 11 #[.int .i64 x] w fun e w' => ∃ ra rc, e = .returned (.tuple #[.agg #[.slice ra M rc, .int .i64 0, .int .i64 0, .int .i64 0], .int .i64 c]) ∧ shCe.At w' ra rc (List.replicate M (false, 0)) ∧ Below w.heap.size w w' := by
  have h1 := hM.out
  have h2 := hc.out
  unfold cellsN at h1
  unfold errC at h2
  by_cases h : 2 ≤ x ∧ x ≤ 64
  · rw [if_pos h] at h1 h2
    obtain ⟨n, rfl⟩ : ∃ n : Nat, x = n := ⟨x.toNat, by omega⟩
    rw [Int.toNat_natCast] at h1
    subst h1 h2
    refine (new_ok n w (by omega) (by omega)).mono ?_
    rintro e w' ⟨B, rfl, q, hb⟩
    exact ⟨_, _, rfl, que_at q, hb⟩
  · rw [if_neg h] at h1 h2
    subst h1 h2
    refine (new_bad x w h).mono ?_
    rintro e w' ⟨rfl, hb⟩
    exact ⟨none, 0, rfl, Shape.At.nil _, hb⟩
theorem rplay_N (x : Int) (w : World) (M : Nat) (hM : Hid (cellsN x = M)) (c : Int) (hc : Hid (errC x = c)) : Calls Try.prog 12 #[.int .i64 x, .slice none 0 0] w fun e w' => ∃ ea ec ta tc ra rc, e = .returned (.tuple #[.slice ea 0 ec, .slice ta 0 tc, .agg #[.slice ra M rc, .int .i64 0, .int .i64 0, .int .i64 0], .int .i64 c]) ∧ shCe.At w' ra rc (List.replicate M (false, 0)) ∧ Below w.heap.size w w' := by
  have h1 := hM.out
  have h2 := hc.out
  unfold cellsN at h1
  unfold errC at h2
  by_cases h : 2 ≤ x ∧ x ≤ 64
  · rw [if_pos h] at h1 h2
    obtain ⟨n, rfl⟩ : ∃ n : Nat, x = n := ⟨x.toNat, by omega⟩
    rw [Int.toNat_natCast] at h1
    subst h1 h2
    refine (rplay_W (ops := []) n w (by omega) (by omega) (Lib.hid (Shape.At.nil (S := shRo) w)) (Lib.hid rfl) (by decide) newG (Lib.hid rfl) [] (Lib.hid rfl) 0 (Lib.hid rfl)).mono ?_
    rintro e w' ⟨ea, ec, ta, tc, ra, rc, cs, g, t, k, rfl, ht, hi, q1, q2, q3, hb⟩
    have hu := tells_uniq (r' := ⟨List.replicate n (false, 0), 0, 0, 0⟩) ht (ring_new (by omega)) hi (idx_new n _ rfl)
    simp only [RiR.mk.injEq] at hu
    obtain ⟨rfl, rfl, rfl, rfl⟩ := hu
    exact ⟨ea, ec, ta, tc, ra, rc, rfl, q3, hb⟩
  · rw [if_neg h] at h1 h2
    subst h1 h2
    refine (rplay_bad x w h).mono ?_
    rintro e w' ⟨rfl, hb⟩
    exact ⟨none, 0, none, 0, none, 0, rfl, Shape.At.nil _, hb⟩
set_option maxHeartbeats 4000000 in
set_option maxRecDepth 100000 in
theorem steps_W {ad : Option Addr} {cap n : Nat} {cs : List CeR} (w : World) (H : Hid (shCe.At w ad cap cs)) (hn : Hid (cs.length = n)) (hnb : n ≤ 8796093022208) (g t k kd d x : Int) (N : Nat) (cs' : List CeR) (g' t' k' : Nat) (y er : Int) (HR : Hid (resS n cs g t k ⟨kd, d⟩ = (⟨cs', g', t', k'⟩, y, er))) (hN : Hid (cs'.length = N)) (hN64 : N ≤ 64) (ok : Bool) (hok : Hid (rgtR n cs g t k = ok)) (d1 d2 : Nat) (h1 : Hid (ok = true → d1 = dsR n t.toNat k.toNat ∧ d2 = dsR n k.toNat g.toNat)) (h0 : Hid (ok = false → d1 = 0 ∧ d2 = 0)) (M : Nat) (hM : Hid (cellsN x = M)) (hM64 : M ≤ 64) (c : Int) (hc : Hid (errC x = c)) (hML : Hid ((List.replicate M ((false, 0) : CeR)).length = M)) :
    Calls Try.prog 3 #[.agg #[.slice ad n cap, .int .i64 g, .int .i64 t, .int .i64 k], .agg #[.int .i64 kd, .int .i64 d], .int .i64 x] w fun e w' => e = .returned (.bool true) ∧ Below w.heap.size w w' := by
  have P0 := Lib.hid (bp_new w (.slice ad n cap) g t k kd d)
  go_enter Try.func3, Try.ntmps3
  go_upto_region 1 with fail
  generalize (w.alloc (.cells #[.slice ad n cap, .int .i64 g, .int .i64 t, .int .i64 k] 24)).alloc (.cells #[.int .i64 kd, .int .i64 d] 26) = X at P0 ⊢
  have G0 := four_at P0.out.r
  have T0 := pair_at P0.out.o
  have l0 := heap_lt P0.out.r
  have m0 := heap_lt P0.out.o
  have A0 := Lib.hid (H.out.step P0.out.b)
  go_upto_region 2 with (first
    | (go_at_call 8; (with_reducible refine (step_W _ A0 hn g t k kd d N cs' g' t' k' y er HR hN).mono ?_); rintro e w1 ⟨ra, rc, rfl, q, hb⟩; have P1 := Lib.hid (P0.out.step hb); have N1 := Lib.hid (que_at q); clear q hb)
    | fail)
  have bl := below_alloc w1 (.cells #[.slice ra N rc, .int .i64 (g' : Nat), .int .i64 (t' : Nat), .int .i64 (k' : Nat)] 24)
  have P2 := Lib.hid (P1.out.step bl)
  have N2 := Lib.hid (N1.out.step bl)
  have U2 := Lib.hid (heap_alloc_new w1 (.cells #[.slice ra N rc, .int .i64 (g' : Nat), .int .i64 (t' : Nat), .int .i64 (k' : Nat)] 24))
  clear bl P0 G0 T0 l0 m0 A0 P1 N1
  generalize w1.alloc (.cells #[.slice ra N rc, .int .i64 (g' : Nat), .int .i64 (t' : Nat), .int .i64 (k' : Nat)] 24) = w2 at P2 N2 U2 ⊢
  generalize w1.heap.size = U at U2 ⊢
  have G2 := four_at P2.out.r
  have T2 := pair_at P2.out.o
  have l2 := heap_lt P2.out.r
  have m2 := heap_lt P2.out.o
  have A2 := Lib.hid (H.out.step P2.out.b)
  go_upto_region 3 with (first
    | (go_at_call 9; (with_reducible refine (rstep_W _ A2 hn hnb g t k kd d N cs' g' t' k' y er HR hN).mono ?_); rintro e w3 ⟨rb, rd, rfl, q, hb⟩; have P3 := Lib.hid (P2.out.step hb); have N3 := Lib.hid (N2.out.step hb); have U3 := Lib.hid (heap_step U2.out hb); have S3 := Lib.hid q; clear q hb)
    | fail)
  have bl := below_alloc w3 (.cells #[.slice rb N rd, .int .i64 (g' : Nat), .int .i64 (t' : Nat), .int .i64 (k' : Nat)] 24)
  have P4 := Lib.hid (P3.out.step bl)
  have N4 := Lib.hid (N3.out.step bl)
  have U4 := Lib.hid (heap_step U3.out bl)
  have S4 := Lib.hid (S3.out.step bl)
  have V4 := Lib.hid (heap_alloc_new w3 (.cells #[.slice rb N rd, .int .i64 (g' : Nat), .int .i64 (t' : Nat), .int .i64 (k' : Nat)] 24))
  clear bl G2 T2 l2 m2 A2 P2 N2 U2 P3 N3 U3 S3
  generalize w3.alloc (.cells #[.slice rb N rd, .int .i64 (g' : Nat), .int .i64 (t' : Nat), .int .i64 (k' : Nat)] 24) = w4 at P4 N4 U4 S4 V4 ⊢
  generalize w3.heap.size = V at V4 ⊢
  have G4 := four_at P4.out.r
  have l4 := heap_lt P4.out.r
  have A4 := Lib.hid (H.out.step P4.out.b)
  go_upto_region 5 with (first
    | (go_at_call 10; (with_reducible refine (rparts_W _ A4 hn g t k ok hok d1 d2 h1 h0).mono ?_); rintro e w5 ⟨rfl, hb⟩; have P5 := Lib.hid (P4.out.step hb); have N5 := Lib.hid (N4.out.step hb); have U5 := Lib.hid (heap_step U4.out hb); have S5 := Lib.hid (S4.out.step hb); have V5 := Lib.hid (heap_step V4.out hb); clear hb)
    | (go_at_call 11; (with_reducible refine (new_N x _ M hM c hc).mono ?_); rintro e w6 ⟨na, nc, rfl, q, hb⟩; have P6 := Lib.hid (P5.out.step hb); have N6 := Lib.hid (N5.out.step hb); have U6 := Lib.hid (heap_step U5.out hb); have S6 := Lib.hid (S5.out.step hb); have V6 := Lib.hid (heap_step V5.out hb); have Y6 := Lib.hid q; clear q hb)
    | fail)
  have bl := below_alloc w6 (.cells #[.slice na M nc, .int .i64 0, .int .i64 0, .int .i64 0] 24)
  have P7 := Lib.hid (P6.out.step bl)
  have N7 := Lib.hid (N6.out.step bl)
  have U7 := Lib.hid (heap_step U6.out bl)
  have S7 := Lib.hid (S6.out.step bl)
  have V7 := Lib.hid (heap_step V6.out bl)
  have Y7 := Lib.hid (Y6.out.step bl)
  have W7 := Lib.hid (heap_alloc_new w6 (.cells #[.slice na M nc, .int .i64 0, .int .i64 0, .int .i64 0] 24))
  clear bl G4 l4 A4 P4 N4 U4 S4 V4 P5 N5 U5 S5 V5 P6 N6 U6 S6 V6 Y6
  generalize w6.alloc (.cells #[.slice na M nc, .int .i64 0, .int .i64 0, .int .i64 0] 24) = w7 at P7 N7 U7 S7 V7 Y7 W7 ⊢
  generalize w6.heap.size = W at W7 ⊢
  go_upto_region 6 with (first
    | (go_at_call 12; (with_reducible refine (rplay_N x _ M hM c hc).mono ?_); rintro e w8 ⟨fa, fc, va, vc, ma, mc, rfl, q, hb⟩; have P8 := Lib.hid (P7.out.step hb); have N8 := Lib.hid (N7.out.step hb); have U8 := Lib.hid (heap_step U7.out hb); have S8 := Lib.hid (S7.out.step hb); have V8 := Lib.hid (heap_step V7.out hb); have Y8 := Lib.hid (Y7.out.step hb); have W8 := Lib.hid (heap_step W7.out hb); have M8 := Lib.hid q; clear q hb)
    | fail)
  have bl := below_alloc w8 (.cells #[.slice ma M mc, .int .i64 0, .int .i64 0, .int .i64 0] 24)
  have P9 := Lib.hid (P8.out.step bl)
  have N9 := Lib.hid (N8.out.step bl)
  have U9 := Lib.hid (heap_step U8.out bl)
  have S9 := Lib.hid (S8.out.step bl)
  have V9 := Lib.hid (heap_step V8.out bl)
  have Y9 := Lib.hid (Y8.out.step bl)
  have W9 := Lib.hid (heap_step W8.out bl)
  have M9 := Lib.hid (M8.out.step bl)
  have X9 := Lib.hid (heap_alloc_new w8 (.cells #[.slice ma M mc, .int .i64 0, .int .i64 0, .int .i64 0] 24))
  clear bl P7 N7 U7 S7 V7 Y7 W7 P8 N8 U8 S8 V8 Y8 W8 M8
  generalize w8.alloc (.cells #[.slice ma M mc, .int .i64 0, .int .i64 0, .int .i64 0] 24) = w9 at P9 N9 U9 S9 V9 Y9 W9 M9 X9 ⊢
  generalize w8.heap.size = Z at X9 ⊢
  have G9 := four_at P9.out.r
  have l9 := heap_lt P9.out.r
  have A9 := Lib.hid (H.out.step P9.out.b)
  go_wp2_with (first
    | (go_at_call 13; (with_reducible refine (right_W _ A9 hn g t k ok hok).mono ?_); rintro e wa ⟨rfl, hb⟩; have PA := Lib.hid (P9.out.step hb); have NA := Lib.hid (N9.out.step hb); have SA := Lib.hid (S9.out.step hb); have YA := Lib.hid (Y9.out.step hb); have MA := Lib.hid (M9.out.step hb); have UA := Lib.hid (heap_step U9.out hb); have VA := Lib.hid (heap_step V9.out hb); have WA := Lib.hid (heap_step W9.out hb); have XA := Lib.hid (heap_step X9.out hb); have gu := four_at UA.out; have gv := four_at VA.out; have lu := heap_lt UA.out; have lv := heap_lt VA.out; clear hb)
    | (go_at_call 14; (with_reducible refine (same_R _ (g' : Int) (t' : Int) (k' : Int) hN NA SA hN64).mono ?_); rintro e wb ⟨rfl, hb⟩; have PB := Lib.hid (PA.out.step hb); have YB := Lib.hid (YA.out.step hb); have MB := Lib.hid (MA.out.step hb); have WB := Lib.hid (heap_step WA.out hb); have XB := Lib.hid (heap_step XA.out hb); have gw := four_at WB.out; have gx := four_at XB.out; have lw := heap_lt WB.out; have lx := heap_lt XB.out; clear hb)
    | (go_at_call 14; (with_reducible refine (same_R _ 0 0 0 hML YB MB hM64).mono ?_); rintro e wc ⟨rfl, hb⟩; have BC := Lib.hid (pstep PB.out.b hb); clear hb)
    | fail)
  go_ret
  exact ⟨rfl, BC.out⟩
theorem ringSteps_walk (v v1 v2 : Value) (w : World) (h : ArgRing w v) (h1 : ArgRo w v1) (h2 : ArgInt w v2) (hb : ∀ (ad : Option Addr) (n cap : Nat) (g t k : Int), v = .agg #[.slice ad n cap, .int .i64 g, .int .i64 t, .int .i64 k] → n ≤ 8796093022208) : Calls Try.prog 3 #[v, v1, v2] w fun e w' => e = .returned (.bool true) ∧ Below w.heap.size w w' := by
  obtain ⟨ad, cap, cs, g, t, k, rfl, HA, _⟩ := h
  obtain ⟨⟨kd, d⟩, rfl⟩ := h1
  obtain ⟨x, rfl⟩ := h2
  obtain ⟨⟨⟨cs', g', t', k'⟩, y, er⟩, hR⟩ : ∃ R, resS cs.length cs g t k ⟨kd, d⟩ = R := ⟨_, rfl⟩
  have hN64 : cs'.length ≤ 64 := by
    unfold resS at hR
    by_cases hr : rgtR cs.length cs g t k = true
    · rw [if_pos hr] at hR
      have hp := rgt_parts hr
      by_cases h0 : errS cs.length ⟨cs, g.toNat, t.toNat, k.toNat⟩ ⟨kd, d⟩ = 0
      · rw [if_pos h0] at hR
        simp only [Prod.mk.injEq] at hR
        have hll := do_len (n := cs.length) ⟨cs, g.toNat, t.toNat, k.toNat⟩ ⟨kd, d⟩
        rw [hR.1] at hll
        simp only at hll
        omega
      · rw [if_neg h0] at hR
        simp only [zeroR, Prod.mk.injEq, RiR.mk.injEq] at hR
        rw [← hR.1.1]
        exact Nat.zero_le _
    · rw [if_neg hr] at hR
      simp only [zeroR, Prod.mk.injEq, RiR.mk.injEq] at hR
      rw [← hR.1.1]
      exact Nat.zero_le _
  have hM64 : cellsN x ≤ 64 := by
    unfold cellsN
    split <;> omega
  cases hr : rgtR cs.length cs g t k with
  | true => exact steps_W w (Lib.hid HA) (Lib.hid rfl) (hb ad _ cap g t k rfl) g t k kd d x _ cs' g' t' k' y er (Lib.hid hR) (Lib.hid rfl) hN64 true (Lib.hid hr) _ _ (Lib.hid (fun _ => ⟨rfl, rfl⟩)) (Lib.hid (fun h => by cases h)) _ (Lib.hid rfl) hM64 _ (Lib.hid rfl) (Lib.hid List.length_replicate)
  | false => exact steps_W w (Lib.hid HA) (Lib.hid rfl) (hb ad _ cap g t k rfl) g t k kd d x _ cs' g' t' k' y er (Lib.hid hR) (Lib.hid rfl) hN64 false (Lib.hid hr) 0 0 (Lib.hid (fun h => by cases h)) (Lib.hid (fun _ => ⟨rfl, rfl⟩)) _ (Lib.hid rfl) hM64 _ (Lib.hid rfl) (Lib.hid List.length_replicate)
end Go.Proofs.Ytipkmmajhhcadaa
