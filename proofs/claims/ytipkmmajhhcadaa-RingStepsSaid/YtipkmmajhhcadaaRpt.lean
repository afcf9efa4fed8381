/- corebellref.RParts: the walk. -/
import Derived.Test.YtipkmmajhhcadaaROwn
import Derived.OwnWalk
namespace Go.Proofs.Ytipkmmajhhcadaa
open Go.RowKit

theorem nat_ne {a b : Nat} (h : ¬ a = b) : ((a : Int) != (b : Int)) = true := by
  have : ¬ (a : Int) = b := by omega
  simpa using this
theorem round_any {n a i : Nat} (ha : a < n) (hi : i < n) : (wrR n (a + i) + 1) % n = wrR n (a + (i + 1)) := by
  by_cases h : i + 1 < n
  · exact round_step ha h
  · rw [round_end ha (by omega)]
    unfold wrR
    rw [if_neg (by omega)]
    omega
/-- One step round, as the walk says it. -/
theorem step_num {n a i u v : Nat} (ha : a < n) (hi : i < n) (hn : n ≤ 64) (hu : wrR n (a + i) = u) (hv : wrR n (a + (i + 1)) = v) : IntKind.i64.wrap ((u : Int) + 1) = (u : Int) + 1 ∧ ((u : Int) + 1).tmod (n : Int) = (v : Int) ∧ IntKind.i64.wrap (v : Int) = (v : Int) ∧ u < n ∧ v < n := by
  have h := round_any ha hi
  rw [hu, hv] at h
  have h1 : u < n := by rw [← hu]; exact wr_lt' ha hi
  have h2 : v < n := by rw [← h]; exact Nat.mod_lt _ (by omega)
  refine ⟨by rw [IntKind.wrap_i64]; omega, ?_, by rw [IntKind.wrap_i64]; omega, h1, h2⟩
  rw [← h]
  exact Int.ofNat_tmod (u + 1) n
theorem wr_add {n t p i : Nat} (ht : t < n) (h : p + i < n) : wrR n (wrR n (t + p) + i) = wrR n (t + (p + i)) := by
  unfold wrR
  split <;> split <;> split <;> omega
set_option maxHeartbeats 8000000 in
set_option maxRecDepth 100000 in
theorem rparts_num (ad : Option Addr) (cap n : Nat) (g t k : Int) (w : World) (h : ¬ (2 ≤ n ∧ n ≤ 64 ∧ (0 ≤ g ∧ g < n) ∧ (0 ≤ t ∧ t < n) ∧ (0 ≤ k ∧ k < n))) : Calls Try.prog 10 #[.agg #[.slice ad n cap, .int .i64 g, .int .i64 t, .int .i64 k]] w fun e w' => e = .returned (.tuple #[.int .i64 0, .int .i64 0, .bool false]) ∧ Below w.heap.size w w' := by
  have B0 := below_alloc w (.cells #[.slice ad n cap, .int .i64 g, .int .i64 t, .int .i64 k] 24)
  by_cases c0 : n < 2
  · have d0 : decide ((n : Int) < 2) = true := decide_eq_true (by omega)
    clear h
    go_enter Try.func10, Try.ntmps10
    go_wp2_with fail
    go_ret3
    exact ⟨rfl, B0⟩
  have d0 : decide ((n : Int) < 2) = false := decide_eq_false (by omega)
  by_cases c1 : 64 < n
  · have d1 : decide ((n : Int) > 64) = true := decide_eq_true (by omega)
    clear h
    go_enter Try.func10, Try.ntmps10
    go_wp2_with fail
    go_ret3
    exact ⟨rfl, B0⟩
  have d1 : decide ((n : Int) > 64) = false := decide_eq_false (by omega)
  by_cases c2 : g < 0
  · have d2 : decide (g < 0) = true := decide_eq_true (by omega)
    clear h
    go_enter Try.func10, Try.ntmps10
    go_wp2_with fail
    go_ret3
    exact ⟨rfl, B0⟩
  have d2 : decide (g < 0) = false := decide_eq_false (by omega)
  by_cases c3 : t < 0
  · have d3 : decide (t < 0) = true := decide_eq_true (by omega)
    clear h
    go_enter Try.func10, Try.ntmps10
    go_wp2_with fail
    go_ret3
    exact ⟨rfl, B0⟩
  have d3 : decide (t < 0) = false := decide_eq_false (by omega)
  by_cases c4 : k < 0
  · have d4 : decide (k < 0) = true := decide_eq_true (by omega)
    clear h
    go_enter Try.func10, Try.ntmps10
    go_wp2_with fail
    go_ret3
    exact ⟨rfl, B0⟩
  have d4 : decide (k < 0) = false := decide_eq_false (by omega)
  by_cases c5 : (n : Int) ≤ g
  · have d5 : decide (g ≥ (n : Int)) = true := decide_eq_true (by omega)
    clear h
    go_enter Try.func10, Try.ntmps10
    go_wp2_with fail
    go_ret3
    exact ⟨rfl, B0⟩
  have d5 : decide (g ≥ (n : Int)) = false := decide_eq_false (by omega)
  by_cases c6 : (n : Int) ≤ t
  · have d6 : decide (t ≥ (n : Int)) = true := decide_eq_true (by omega)
    clear h
    go_enter Try.func10, Try.ntmps10
    go_wp2_with fail
    go_ret3
    exact ⟨rfl, B0⟩
  have d6 : decide (t ≥ (n : Int)) = false := decide_eq_false (by omega)
  have d7 : decide (k ≥ (n : Int)) = true := decide_eq_true (by omega)
  clear h
  go_enter Try.func10, Try.ntmps10
  go_wp2_with fail
  go_ret3
  exact ⟨rfl, B0⟩
set_option maxHeartbeats 8000000 in
set_option maxRecDepth 100000 in
theorem rparts_nat {ad : Option Addr} {cap n : Nat} {cs : List CeR} (w : World) (H : Hid (shCe.At w ad cap cs)) (hn : Hid (cs.length = n)) (g t k : Nat) (hN : 2 ≤ n) (hM : n ≤ 64) (hg : g < n) (ht : t < n) (hk : k < n) (p q r : Nat) (HP : Hid (dsR n t k = p)) (HQ : Hid (dsR n t g = q)) (HR : Hid (dsR n k g = r)) (x : Bool) (hx : Hid (rgtR n cs (g : Int) (t : Int) (k : Int) = x)) (d1 d2 : Nat) (h1 : Hid (x = true → d1 = p ∧ d2 = r)) (h0 : Hid (x = false → d1 = 0 ∧ d2 = 0)) : Calls Try.prog 10 #[.agg #[.slice ad n cap, .int .i64 (g : Nat), .int .i64 (t : Nat), .int .i64 (k : Nat)]] w fun e w' => e = .returned (.tuple #[.int .i64 (d1 : Nat), .int .i64 (d2 : Nat), .bool x]) ∧ Below w.heap.size w w' := by
  have heq : ∀ (x x' : Bool) (y y' : Int) (w : World), (Op.equalIn 10000 47 (.agg #[.bool x, .int .i64 y]) (.agg #[.bool x', .int .i64 y'])).run Try.prog w = .ok (decide (x = x' ∧ y = y')) w := eq_cell2
  have c1 : decide ((n : Int) < 2) = false := decide_eq_false (by omega)
  have c2 : decide ((n : Int) > 64) = false := decide_eq_false (by omega)
  have c3 : decide (n ≤ g) = false := decide_eq_false (by omega)
  have c4 : decide (n ≤ t) = false := decide_eq_false (by omega)
  have c5 : decide (n ≤ k) = false := decide_eq_false (by omega)
  have hn0 : ¬ n = 0 := by omega
  have B0 := Lib.hid (below_alloc w (.cells #[.slice ad n cap, .int .i64 (g : Nat), .int .i64 (t : Nat), .int .i64 (k : Nat)] 24))
  have R0 := Lib.hid (heap_alloc_new w (.cells #[.slice ad n cap, .int .i64 (g : Nat), .int .i64 (t : Nat), .int .i64 (k : Nat)] 24))
  have A0 := Lib.hid (H.out.step B0.out)
  go_enter Try.func10, Try.ntmps10
  go_upto_region 1 with fail
  generalize w.alloc (.cells #[.slice ad n cap, .int .i64 (g : Nat), .int .i64 (t : Nat), .int .i64 (k : Nat)] 24) = X at B0 R0 A0 ⊢
  have G0 := four_at R0.out
  have l0 := heap_lt R0.out
  go_upto_region 4 with fail
  go_quiet (fail)
  go_wp2_with fail
  go_loopw [6, 7] (fun dn pt wr => ∃ i q0 : Nat, i ≤ p ∧ i ≤ q ∧ dn = .int .i64 i ∧ pt = .int .i64 (wrR n (t + i) : Nat) ∧ Hid (∀ j, j < i → okC p r j (cs[wrR n (t + j)]?.getD (false, 0)) = true) ∧ wr = X.drewN q0) (fun v _ _ => p - (intOf v).toNat)
  case atStart => exact ⟨0, _, Nat.zero_le _, Nat.zero_le _, rfl, by rw [show wrR n (t + 0) = t by unfold wrR; rw [if_pos (by omega)]; omega], Lib.hid (fun j hj => by omega), rfl⟩
  case round =>
    obtain ⟨i, q0, hip, hiq, rfl, rfl, HALL, rfl⟩ := hrel
    by_cases hie : i = p
    · have hie' : p = i := hie.symm
      subst hie'
      have hpq : p ≤ q := hiq
      have hr : p + r = q := by
        have h := ds_sum ht hk hg (by rw [HP.out, HQ.out]; exact hpq)
        rw [HP.out, HQ.out, HR.out] at h
        exact h
      have hqn : q < n := by rw [← HQ.out]; exact ds_lt ht hg
      have hkp : Hid (wrR n (t + p) = k) := Lib.hid (by rw [← HP.out]; exact wr_ds ht hk)
      have hgq : Hid (wrR n (t + q) = g) := Lib.hid (by rw [← HQ.out]; exact wr_ds ht hg)
      have HRL := Lib.hid hr
      rw [hkp.out]
      go_upto_region 12 with fail
      go_loopw [7, 8] (fun pt dn wr => ∃ i q0 : Nat, i ≤ r ∧ dn = .int .i64 i ∧ pt = .int .i64 (wrR n (k + i) : Nat) ∧ Hid (∀ j, j < p + i → okC p r j (cs[wrR n (t + j)]?.getD (false, 0)) = true) ∧ wr = X.drewN q0) (fun _ v _ => r - (intOf v).toNat)
      case atStart => exact ⟨0, _, Nat.zero_le _, rfl, by rw [show wrR n (k + 0) = k by unfold wrR; rw [if_pos (by omega)]; omega], HALL, rfl⟩
      case round =>
        clear HALL
        obtain ⟨i, q0, hir, rfl, rfl, HALL2, rfl⟩ := hrel
        by_cases hie : i = r
        · have hgi : wrR n (k + i) = g := by rw [hie, ← HR.out]; exact wr_ds hk hg
          rw [hgi]
          have hie' : r = i := hie.symm
          subst hie'
          clear hgi hie
          have y1 : IntKind.i64.wrap ((n : Int) - (p : Int)) = ((n - p : Nat) : Int) := by rw [IntKind.wrap_i64]; omega
          obtain ⟨np, hnp⟩ : ∃ np, n - p = np := ⟨_, rfl⟩
          rw [hnp] at y1
          have y2 : IntKind.i64.wrap ((np : Int) - (r : Int)) = ((np - r : Nat) : Int) := by rw [IntKind.wrap_i64]; omega
          obtain ⟨M, hM⟩ : ∃ M, np - r = M := ⟨_, rfl⟩
          rw [hM] at y2
          have HMM : Hid (q + M = n) := Lib.hid (by have := ds_lt ht hg; rw [HQ.out] at this; omega)
          clear hnp hM
          go_wp2_with fail
          go_loopw [7, 116] (fun pt v wr => ∃ j q0 : Nat, j ≤ M ∧ v = .int .i64 j ∧ pt = .int .i64 (wrR n (g + j) : Nat) ∧ Hid (∀ i, i < q + j → okC p r i (cs[wrR n (t + i)]?.getD (false, 0)) = true) ∧ wr = X.drewN q0) (fun _ v _ => M - (intOf v).toNat)
          case atStart => exact ⟨0, _, Nat.zero_le _, rfl, by rw [show wrR n (g + 0) = g by unfold wrR; rw [if_pos (by omega)]; omega], Lib.hid (fun i hi => HALL2.out i (by rw [hr]; exact hi)), rfl⟩
          case round =>
            clear HALL2
            obtain ⟨j, q0, hjM, rfl, rfl, HALL3, rfl⟩ := hrel
            by_cases hlt : j < M
            · have hjn : q + j < n := by have := HMM.out; omega
              have hjn2 : j < n := by omega
              obtain ⟨u, hu'⟩ : ∃ u, wrR n (g + j) = u := ⟨_, rfl⟩
              obtain ⟨v, hv'⟩ : ∃ v, wrR n (g + (j + 1)) = v := ⟨_, rfl⟩
              obtain ⟨s1, s2, s3, hu, hv⟩ := step_num hg hjn2 hM hu' hv'
              have HU : Hid (wrR n (t + (q + j)) = u) := Lib.hid (by rw [← hu', ← hgq.out, wr_add ht hjn])
              have HV := Lib.hid hv'
              rw [hu']
              obtain ⟨⟨dv, z⟩, hc⟩ : ∃ c, cs[u]? = some c := ⟨cs[u]'(by rw [hn.out]; exact hu), List.getElem?_eq_getElem _⟩
              have HC := Lib.hid hc
              obtain ⟨b, off, rfl, hbl, e0, e1⟩ := at_ce A0.out hc
              dsimp only at e0 e1
              clear hc
              have huz : (u : Int) < (n : Int) := by omega
              clear hu' hv'
              by_cases hz : dv = false ∧ z = 0
              · obtain ⟨rfl, rfl⟩ := hz
                go_wp2_with fail
                go_roundw
                case rel => exact ⟨j + 1, q0, by omega, by go_num, by rw [HV.out], Lib.hid (fun i hi => by
                  by_cases e : i = q + j
                  · rw [e, HU.out, HC.out, Option.getD_some, okC_zero (by omega)]
                    rfl
                  · exact HALL3.out i (by omega)), rfl⟩
                case measure => simp [intOf]; omega
              · have hzd : decide (dv = false ∧ z = 0) = false := decide_eq_false hz
                obtain rfl : x = false := by
                  rw [← hx.out]
                  refine rgt_cell (k := q + j) (by omega) ?_
                  show okC (dsR n t k) (dsR n k g) (q + j) (cs[wrR n (t + (q + j))]?.getD (false, 0)) = false
                  rw [HP.out, HR.out, HU.out, HC.out, Option.getD_some]
                  rw [okC_zero (by omega)]; exact decide_eq_false (fun h => hz ⟨(Prod.mk.inj h).1, (Prod.mk.inj h).2⟩)
                obtain ⟨rfl, rfl⟩ := h0.out rfl
                have hzz : ¬ (dv = false ∧ z = 0) := hz
                clear hz
                cases dv with
                | true =>
                  clear hzd hzz
                  go_wp2_with fail
                  go_ret3
                  exact ⟨rfl, pstep B0.out (below_drewN (Below.refl _ _) _)⟩
                | false =>
                  have hz0 : ¬ z = 0 := fun e => hzz ⟨rfl, e⟩
                  have hz0d : decide (z = 0) = false := decide_eq_false hz0
                  clear hzd hzz
                  go_wp2_with fail
                  go_ret3
                  exact ⟨rfl, pstep B0.out (below_drewN (Below.refl _ _) _)⟩
            · have hjM2 : j = M := by omega
              obtain rfl : x = true := by
                rw [← hx.out]
                refine rgt_true hN hM ⟨by omega, by omega⟩ ⟨by omega, by omega⟩ ⟨by omega, by omega⟩ ?_ (fun i hi => ?_)
                · show dsR n t k ≤ dsR n t g
                  rw [HP.out, HQ.out]; exact hpq
                · show okC (dsR n t k) (dsR n k g) i (cs[wrR n (t + i)]?.getD (false, 0)) = true
                  rw [HP.out, HR.out]
                  exact HALL3.out i (by have := HMM.out; omega)
              obtain ⟨rfl, rfl⟩ := h1.out rfl
              clear HALL3
              go_wp2_with fail
              go_ret3
              exact ⟨rfl, pstep B0.out (below_drewN (Below.refl _ _) _)⟩
        · have hlt : i < r := by omega
          have hin : p + i < n := by omega
          have hin2 : i < n := by omega
          obtain ⟨u, hu'⟩ : ∃ u, wrR n (k + i) = u := ⟨_, rfl⟩
          obtain ⟨v, hv'⟩ : ∃ v, wrR n (k + (i + 1)) = v := ⟨_, rfl⟩
          obtain ⟨s1, s2, s3, hu, hv⟩ := step_num hk hin2 hM hu' hv'
          have HU : Hid (wrR n (t + (p + i)) = u) := Lib.hid (by rw [← hu', ← hkp.out, wr_add ht hin])
          have HV := Lib.hid hv'
          have hug : ¬ u = g := fun e => hie (by
            have h := (at_ds hk hg hin2).1 (hu'.trans e)
            rw [HR.out] at h
            exact h)
          have hugd := nat_ne hug
          have hwr : v = t → v = g := by
            have h := work_round (i := i) ht hk hg (by rw [HP.out, HQ.out]; exact hpq) (by rw [HR.out]; exact hlt)
            rw [hv'] at h
            exact h
          rw [hu']
          obtain ⟨⟨dv, z⟩, hc⟩ : ∃ c, cs[u]? = some c := ⟨cs[u]'(by rw [hn.out]; exact hu), List.getElem?_eq_getElem _⟩
          have HC := Lib.hid hc
          obtain ⟨b, off, rfl, hbl, e0, e1⟩ := at_ce A0.out hc
          dsimp only at e0 e1
          clear hc
          have huz : (u : Int) < (n : Int) := by omega
          have hni : decide (n < i) = false := decide_eq_false (by omega)
          have xi : IntKind.i64.wrap ((i : Int) + 1) = (i : Int) + 1 := by rw [IntKind.wrap_i64]; omega
          have HG2 := Lib.hid hug
          have HWR := Lib.hid hwr
          clear hu' hv' hug hwr hie hr HRL
          cases dv with
          | false =>
            obtain rfl : x = false := by
              rw [← hx.out]
              refine rgt_cell (k := p + i) (by omega) ?_
              show okC (dsR n t k) (dsR n k g) (p + i) (cs[wrR n (t + (p + i))]?.getD (false, 0)) = false
              rw [HP.out, HR.out, HU.out, HC.out, Option.getD_some]
              rw [okC_dev (by omega) (by omega)]
            obtain ⟨rfl, rfl⟩ := h0.out rfl
            go_wp2_with fail
            go_ret3
            exact ⟨rfl, pstep B0.out (below_drewN (Below.refl _ _) _)⟩
          | true =>
            go_wp2_with fail
            go_quiet (fail)
            by_cases hvt : v = t
            · have hvg := HWR.out hvt
              have hv1 : ((v : Int) == (t : Int)) = true := nat_eq true (decide_eq_true hvt)
              have hv2 : ((v : Int) != (g : Int)) = false := by rw [hvg]; simp
              clear hvt hvg
              go_wp2_with fail
              go_roundw
              case rel => exact ⟨i + 1, _, by omega, by go_num, by rw [HV.out], Lib.hid (fun j hj => by
                by_cases e : j = p + i
                · rw [e, HU.out, HC.out, Option.getD_some, okC_dev (by omega) (by omega)]
                · exact HALL2.out j (by omega)), rfl⟩
              case measure => simp [intOf]; omega
            · have hv1 : ((v : Int) == (t : Int)) = false := nat_eq false (decide_eq_false hvt)
              clear hvt
              go_wp2_with fail
              go_roundw
              case rel => exact ⟨i + 1, _, by omega, by go_num, by rw [HV.out], Lib.hid (fun j hj => by
                by_cases e : j = p + i
                · rw [e, HU.out, HC.out, Option.getD_some, okC_dev (by omega) (by omega)]
                · exact HALL2.out j (by omega)), rfl⟩
              case measure => simp [intOf]; omega
    · have hlt : i < p := by omega
      have hpn : p < n := by rw [← HP.out]; exact ds_lt ht hk
      have hin2 : i < n := by omega
      obtain ⟨u, hu'⟩ : ∃ u, wrR n (t + i) = u := ⟨_, rfl⟩
      obtain ⟨v, hv'⟩ : ∃ v, wrR n (t + (i + 1)) = v := ⟨_, rfl⟩
      obtain ⟨s1, s2, s3, hu, hv⟩ := step_num ht hin2 hM hu' hv'
      have HU := Lib.hid hu'
      have HV := Lib.hid hv'
      have huk : ¬ u = k := fun e => hie (by
        have h := (at_ds ht hk hin2).1 (hu'.trans e)
        rw [HP.out] at h
        exact h)
      have hukd := nat_ne huk
      rw [hu']
      by_cases hqe : i = q
      · have hug : u = g := by rw [← hu', hqe, ← HQ.out]; exact wr_ds ht hg
        obtain rfl : x = false := by
          rw [← hx.out]
          refine rgt_order ?_
          show dsR n t g < dsR n t k
          rw [HP.out, HQ.out]; omega
        obtain ⟨rfl, rfl⟩ := h0.out rfl
        have hugd : ((u : Int) != (g : Int)) = false := by rw [hug]; simp
        clear hu' hv' huk hug hqe hie
        go_wp2_with fail
        go_ret3
        exact ⟨rfl, pstep B0.out (below_drewN (Below.refl _ _) _)⟩
      · have hug : ¬ u = g := fun e => hqe (by
          have h := (at_ds ht hg hin2).1 (hu'.trans e)
          rw [HQ.out] at h
          exact h)
        have hugd := nat_ne hug
        obtain ⟨⟨dv, z⟩, hc⟩ : ∃ c, cs[u]? = some c := ⟨cs[u]'(by rw [hn.out]; exact hu), List.getElem?_eq_getElem _⟩
        have HC := Lib.hid hc
        obtain ⟨b, off, rfl, hbl, e0, e1⟩ := at_ce A0.out hc
        dsimp only at e0 e1
        clear hc
        have huz : (u : Int) < (n : Int) := by omega
        have xi : IntKind.i64.wrap ((i : Int) + 1) = (i : Int) + 1 := by rw [IntKind.wrap_i64]; omega
        clear hu' hv' huk hug hie
        cases dv with
        | true =>
          obtain rfl : x = false := by
            rw [← hx.out]
            refine rgt_cell (k := i) (by omega) ?_
            show okC (dsR n t k) (dsR n k g) (i) (cs[wrR n (t + (i))]?.getD (false, 0)) = false
            rw [HP.out, HR.out, HU.out, HC.out, Option.getD_some]
            rw [okC_work hlt]; rfl
          obtain ⟨rfl, rfl⟩ := h0.out rfl
          go_wp2_with fail
          go_ret3
          exact ⟨rfl, pstep B0.out (below_drewN (Below.refl _ _) _)⟩
        | false =>
          go_wp2_with fail
          go_quiet (fail)
          go_wp2_with fail
          go_roundw
          case rel => exact ⟨i + 1, _, by omega, by omega, by go_num, by rw [HV.out], Lib.hid (fun j hj => by
            by_cases e : j = i
            · rw [e, HU.out, HC.out, Option.getD_some, okC_work hlt]
              rfl
            · exact HALL.out j (by omega)), World.drewN_drewN _ _ _⟩
          case measure => simp [intOf]; omega
/-- corebellref.RParts, at every ring. -/
theorem rparts_W {ad : Option Addr} {cap n : Nat} {cs : List CeR} (w : World) (H : Hid (shCe.At w ad cap cs)) (hn : Hid (cs.length = n)) (g t k : Int) (x : Bool) (hx : Hid (rgtR n cs g t k = x)) (d1 d2 : Nat) (h1 : Hid (x = true → d1 = dsR n t.toNat k.toNat ∧ d2 = dsR n k.toNat g.toNat)) (h0 : Hid (x = false → d1 = 0 ∧ d2 = 0)) : Calls Try.prog 10 #[.agg #[.slice ad n cap, .int .i64 g, .int .i64 t, .int .i64 k]] w fun e w' => e = .returned (.tuple #[.int .i64 (d1 : Nat), .int .i64 (d2 : Nat), .bool x]) ∧ Below w.heap.size w w' := by
  by_cases h : 2 ≤ n ∧ n ≤ 64 ∧ (0 ≤ g ∧ g < n) ∧ (0 ≤ t ∧ t < n) ∧ (0 ≤ k ∧ k < n)
  · obtain ⟨hN, hM, ⟨g0, g1⟩, ⟨t0, t1⟩, ⟨k0, k1⟩⟩ := h
    obtain ⟨g', rfl⟩ : ∃ g' : Nat, g = g' := ⟨g.toNat, by omega⟩
    obtain ⟨t', rfl⟩ : ∃ t' : Nat, t = t' := ⟨t.toNat, by omega⟩
    obtain ⟨k', rfl⟩ : ∃ k' : Nat, k = k' := ⟨k.toNat, by omega⟩
    exact rparts_nat w H hn g' t' k' hN hM (by omega) (by omega) (by omega) _ _ _ (Lib.hid rfl) (Lib.hid rfl) (Lib.hid rfl) x hx d1 d2 h1 h0
  · obtain rfl : x = false := by rw [← hx.out]; exact rgt_num h
    obtain ⟨rfl, rfl⟩ := h0.out rfl
    exact rparts_num ad cap n g t k w h
end Go.Proofs.Ytipkmmajhhcadaa
