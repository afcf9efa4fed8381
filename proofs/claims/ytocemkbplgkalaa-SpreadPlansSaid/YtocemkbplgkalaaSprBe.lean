/- corebellref's EWrong and EBest, the walk of SpreadBest. -/
import Derived.Test.YtocemkbplgkalaaSprBn
import Derived.Test.YtocemkbplgkalaaSprSu
namespace Go.Proofs.Ytocemkbplgkalaa
open Go.RowKit

set_option maxHeartbeats 1000000 in
theorem ewrong_no {ad : Option Addr} {cap n : Nat} {f : Nat → Int} (C : Int) (w : World) (HA : Hid (IntAt w ad cap n f)) (hn : n ≤ 9223372036854775807) (h : ¬ 0 < C ∨ (0 < C ∧ ¬ C < 9) ∨ (0 < C ∧ C < 9 ∧ ¬ (n : Int) ≤ 400)) :
    Calls Try.prog 12 #[.slice ad n cap, .int .i64 C] w fun e w' => e = .returned (.int .i64 2) ∧ w = w' := by
  rcases h with h1 | ⟨h1, h2⟩ | ⟨h1, h2, h3⟩
  all_goals
    go_enter Try.func12, Try.ntmps12
    go_wp2
    go_loop [5, 21] (fun o i => ∃ k : Nat, k ≤ n ∧ i = .int .i64 k ∧ o = .bool false) (fun _ i => n - (intOf i).toNat)
    case atStart => exact ⟨0, Nat.zero_le _, rfl, rfl⟩
    case round =>
      obtain ⟨k, hk, rfl, rfl⟩ := hrel
      by_cases hlt : k < n
      · obtain ⟨b, off, rfl, _, hc⟩ := HA.out.2 (by omega)
        have c0 := hc k hlt
        obtain ⟨x, hx⟩ : ∃ x, f k = x := ⟨_, rfl⟩
        rw [hx] at c0
        clear hc hx
        go_wp2
        go_round
        case rel => exact ⟨k + 1, by omega, by go_num, rfl⟩
        case measure => simp [intOf]; omega
      · obtain rfl : k = n := by omega
        clear hlt hk
        go_wp2
        go_ret
        exact ⟨rfl, rfl⟩
set_option maxHeartbeats 1000000 in
theorem ewrong_go {ad : Option Addr} {cap n : Nat} {f : Nat → Int} (C : Int) (w : World) (HA : Hid (IntAt w ad cap n f)) (h1 : 0 < C) (h2 : C < 9) (h3 : (n : Int) ≤ 400) (q : Int) (hq : Hid ((if badW f n = true then (2 : Int) else 0) = q)) :
    Calls Try.prog 12 #[.slice ad n cap, .int .i64 C] w fun e w' => e = .returned (.int .i64 q) ∧ w = w' := by
  go_enter Try.func12, Try.ntmps12
  go_wp2
  go_loop [5, 21] (fun o i => ∃ (k : Nat) (g : Bool), k ≤ n ∧ i = .int .i64 k ∧ o = .bool g ∧ badW f k = !g) (fun _ i => n - (intOf i).toNat)
  case atStart => exact ⟨0, true, Nat.zero_le _, rfl, rfl, rfl⟩
  case round =>
    obtain ⟨k, g, hk, rfl, rfl, hb⟩ := hrel
    have HB := Lib.hid hb
    clear hb
    by_cases hlt : k < n
    · obtain ⟨b, off, rfl, _, hc⟩ := HA.out.2 (by omega)
      have c0 := hc k hlt
      have hst : badW f (k + 1) = (badW f k || decide (f k < 0) || decide (1073741824 < f k)) := rfl
      obtain ⟨x, hx⟩ : ∃ x, f k = x := ⟨_, rfl⟩
      rw [hx] at c0 hst
      rw [HB.out] at hst
      have HST := Lib.hid hst
      clear hc hx hst
      cases g with
      | false =>
        go_wp2
        go_round
        case rel => exact ⟨k + 1, false, by omega, by go_num, rfl, by rw [HST.out]; rfl⟩
        case measure => simp [intOf]; omega
      | true =>
        by_cases g1 : x < 0
        · have t1 : ¬ 0 ≤ x := by omega
          go_wp2
          go_round
          case rel => exact ⟨k + 1, false, by omega, by go_num, rfl, by rw [HST.out, decide_eq_true g1]; rfl⟩
          case measure => simp [intOf]; omega
        · have t1 : 0 ≤ x := by omega
          by_cases g2 : 1073741824 < x
          · have t2 : ¬ x ≤ 1073741824 := by omega
            go_wp2
            go_round
            case rel => exact ⟨k + 1, false, by omega, by go_num, rfl, by rw [HST.out, decide_eq_true g2]; simp⟩
            case measure => simp [intOf]; omega
          · have t2 : x ≤ 1073741824 := by omega
            go_wp2
            go_round
            case rel => exact ⟨k + 1, true, by omega, by go_num, rfl, by rw [HST.out, decide_eq_false g1, decide_eq_false g2]; rfl⟩
            case measure => simp [intOf]; omega
    · obtain rfl : k = n := by omega
      have hq2 := hq.out
      rw [HB.out] at hq2
      clear hlt hk hq HB
      cases g with
      | false =>
        have e : q = 2 := hq2.symm
        subst e
        clear hq2
        go_wp2
        go_ret
        exact ⟨rfl, rfl⟩
      | true =>
        have e : q = 0 := hq2.symm
        subst e
        clear hq2
        go_wp2
        go_ret
        exact ⟨rfl, rfl⟩
theorem ewrong_R {ad : Option Addr} {cap n : Nat} {f : Nat → Int} (C : Int) (w : World) (HA : Hid (IntAt w ad cap n f)) (hn : n ≤ 9223372036854775807) (q : Int) (hq : Hid (wrongV f n C = q)) :
    Calls Try.prog 12 #[.slice ad n cap, .int .i64 C] w fun e w' => e = .returned (.int .i64 q) ∧ w = w' := by
  have hq2 := hq.out
  unfold wrongV at hq2
  by_cases h : 0 < C ∧ C < 9 ∧ n ≤ 400
  · refine ewrong_go C w HA h.1 h.2.1 (by omega) q (Lib.hid ?_)
    rw [← hq2]
    by_cases hb : badW f n = true
    · rw [if_pos hb, if_pos (Or.inr (Or.inr (Or.inr hb)))]
    · rw [if_neg hb, if_neg]
      rintro (g | g | g | g)
      · omega
      · omega
      · omega
      · exact hb g
  · rw [if_pos (by omega)] at hq2
    subst hq2
    exact ewrong_no C w HA hn (by omega)
theorem mxN_bound {ws : Nat → Nat} {m n : Nat} (hn : n ≤ 9) (hw : ∀ i, i < n → ws i ≤ 1073741824) (N : Nat) : mxN ws m n N ≤ 9663676416 := by
  refine maxF_le fun c _ => ?_
  have h1 : lod ws (dg m N) c n ≤ n * 1073741824 := by
    rw [← sumF_const]
    refine sumF_le fun i hi => ?_
    have := hw i hi
    show (if dg m N i = c then ws i else 0) ≤ _
    split <;> omega
  have h2 : n * 1073741824 ≤ 9 * 1073741824 := Nat.mul_le_mul_right _ hn
  omega
set_option maxHeartbeats 1000000 in
set_option maxRecDepth 100000 in
theorem ebest_R {ad : Option Addr} {cap n m : Nat} {ws : Nat → Nat} (w : World) (HA : Hid (IntAt w ad cap n (fun i => (ws i : Int)))) (hn : n ≤ 9) (hm : 0 < m) (hm8 : m ≤ 8) (hw : Hid (∀ i, i < n → ws i ≤ 1073741824)) :
    Calls Try.prog 18 #[.slice ad n cap, .int .i64 (m : Int)] w (SmallOut w ws m n) := by
  have hmk := run_make_row' (P := Try.prog) 22 3 (.int .i64 0) 8 Try.underlying22 info_int rfl .i64 .i64 m (by omega) (by omega)
  have HMK := Lib.hid hmk
  clear hmk
  go_enter Try.func18, Try.ntmps18
  go_wp2_with fail
  go_loopw [5, 13] (fun x i wr => ∃ k : Nat, k ≤ n ∧ i = .int .i64 k ∧ x = .int .i64 (pw m k : Nat) ∧ w = wr) (fun _ i _ => n - (intOf i).toNat)
  case atStart => exact ⟨0, Nat.zero_le _, rfl, rfl, rfl⟩
  case round =>
    obtain ⟨k, hk, rfl, rfl, rfl⟩ := hrel
    have hpb := pw_bound (k := k) hm8 (by omega)
    by_cases hlt : k < n
    · have hpb2 := pw_bound (k := k + 1) hm8 (by omega)
      have hst : pw m (k + 1) = pw m k * m := rfl
      obtain ⟨x, hx⟩ : ∃ x, pw m k = x := ⟨_, rfl⟩
      obtain ⟨y, hy⟩ : ∃ y, pw m (k + 1) = y := ⟨_, rfl⟩
      rw [hx, hy] at hst
      rw [hy] at hpb2
      rw [hx]
      have HY := Lib.hid hy
      have p1 : (x : Int) * (m : Int) = (y : Int) := by rw [← Int.natCast_mul, hst]
      clear hx hy hst hpb
      go_wp2_with fail
      go_roundw
      case rel => exact ⟨k + 1, by omega, by go_num, by rw [HY.out], by trivial⟩
      case measure => simp [intOf]; omega
    · obtain rfl : k = n := by omega
      obtain ⟨al, hal⟩ : ∃ x, pw m k = x := ⟨_, rfl⟩
      rw [hal] at hpb ⊢
      have HAL := Lib.hid hal
      clear hal hlt hk
      go_wp2_with fail
      go_loopw [6, 20] (fun x i wr => ∃ (N b : Nat), N ≤ al ∧ i = .int .i64 N ∧ x = .int .i64 b ∧ LeastTo ws m k N b ∧ Below w.heap.size w wr) (fun _ i _ => al - (intOf i).toNat)
      case atStart => exact ⟨0, 4611686018427387904, Nat.zero_le _, rfl, rfl, LeastTo.start ws m k, Below.refl _ _⟩
      case round =>
        obtain ⟨N, b, hN, rfl, rfl, hl, hb⟩ := hrel
        have hbb := hl.1
        have HL := Lib.hid hl
        have HB := Lib.hid hb
        by_cases hNa : N < al
        · obtain ⟨wo, rfl⟩ : ∃ wo : World, wo = wr := ⟨_, rfl⟩
          have HA2 := Lib.hid (HA.out.step hb)
          have hmk := HMK.out
          have HRF := Lib.hid (RowI.fresh wo m)
          clear hl hb
          go_wp2_with fail
          clear hmk
          go_loopw [7, 27] (fun x i wr => ∃ j : Nat, j ≤ k ∧ i = .int .i64 j ∧ x = .int .i64 (nn m N j : Nat) ∧ RowI wr wo.heap.size m (fun c => lod ws (dg m N) c j) ∧ Below wo.heap.size wo wr) (fun _ i _ => k - (intOf i).toNat)
          case atStart => exact ⟨0, Nat.zero_le _, rfl, rfl, HRF.out, below_al wo _⟩
          case round =>
            obtain ⟨j, hj, rfl, rfl, hr, hb⟩ := hrel
            have hnn := nn_le m N j
            by_cases hjk : j < k
            · obtain ⟨d, hd⟩ : ∃ d, dg m N j = d := ⟨_, rfl⟩
              have hdm : d < m := by rw [← hd]; exact dg_lt hm N j
              have cd := hr.cell hdm
              have fd := hr.frozen d
              obtain ⟨x, hx⟩ : ∃ x, lod ws (dg m N) d j = x := ⟨_, rfl⟩
              have hxb : x ≤ 9663676416 := by
                rw [← hx]
                have h1 : lod ws (dg m N) d j ≤ j * 1073741824 := by
                  rw [← sumF_const]
                  refine sumF_le fun i hi => ?_
                  have := hw.out i (by omega)
                  show (if dg m N i = d then ws i else 0) ≤ _
                  split <;> omega
                have h2 : j * 1073741824 ≤ 9 * 1073741824 := Nat.mul_le_mul_right _ (by omega)
                omega
              rw [hx] at cd
              obtain ⟨qb, qo, hqe, hqb, hcw⟩ := (HA2.out.step hb).2 (by omega)
              subst hqe
              have cw : wr.cell? ⟨qb, qo + j, none⟩ = some (.int .i64 ((ws j : Nat) : Int)) := hcw j hjk
              have hwk := hw.out j hjk
              obtain ⟨wk, hwe⟩ : ∃ wk, ws j = wk := ⟨_, rfl⟩
              rw [hwe] at cw hwk
              obtain ⟨v, hv⟩ : ∃ v, nn m N j = v := ⟨_, rfl⟩
              have hd2 : v % m = d := by rw [← hv]; exact hd
              obtain ⟨v2, hv2⟩ : ∃ v2, nn m N (j + 1) = v2 := ⟨_, rfl⟩
              have hv3 : v / m = v2 := by rw [← hv, ← hv2]; rfl
              rw [hv] at hnn ⊢
              have q1 : (v : Int) % (m : Int) = (d : Int) := by rw [← hd2]; rfl
              have q2 : (v : Int) / (m : Int) = (v2 : Int) := by rw [← hv3]; rfl
              have q3 : (v : Int).tmod (m : Int) = (d : Int) := by rw [Int.tmod_eq_emod_of_nonneg (by omega)]; exact q1
              have q4 : (v : Int).tdiv (m : Int) = (v2 : Int) := by rw [Int.tdiv_eq_ediv_of_nonneg (by omega)]; exact q2
              obtain ⟨y, hy⟩ : ∃ y, x + wk = y := ⟨_, rfl⟩
              have hst := lod_step ws (dg m N) m j d x wk hd hx hwe
              rw [hy] at hst
              have HST := Lib.hid hst
              have q5 : (x : Int) + (wk : Int) = (y : Int) := by omega
              have hv2b : v2 ≤ 134217728 := by rw [← hv2]; exact Nat.le_trans (nn_le m N (j + 1)) (by omega)
              have HV2 := Lib.hid hv2
              have HR := Lib.hid hr
              have HB2 := Lib.hid hb
              have mz : ¬ (m : Int) = 0 := by omega
              clear hr hb hcw hd hx hwe hv hd2 hv2 hv3 hst hy
              go_wp2_with fail
              go_roundw
              case rel => exact ⟨j + 1, by omega, by go_num, by rw [HV2.out], (HR.out.put hdm y).congr HST.out, HB2.out.setCell (p := ⟨wo.heap.size, d, none⟩) (Nat.le_refl _) _⟩
              case measure => simp [intOf]; omega
            · obtain rfl : j = k := by omega
              have HC : Hid (∀ i, i < m → wr.cell? ⟨wo.heap.size, 0 + i, none⟩ = some (.int .i64 ((lod ws (dg m N) i j : Nat) : Int))) := Lib.hid fun i hi => by rw [Nat.zero_add]; exact hr.cell hi
              have m1000 : m ≤ 1000 := by omega
              obtain ⟨M, hM⟩ : ∃ M, mxN ws m j N = M := ⟨_, rfl⟩
              have HM : Hid (maxF (fun c => lod ws (dg m N) c j) m = M) := Lib.hid hM
              have hnx := HL.out.step
              rw [hM] at hnx
              have HNX := Lib.hid hnx
              have HB3 := Lib.hid (grow HB.out hb)
              clear hr hb hM hnx hjk hj hnn
              go_wp2_with (first
                | (go_at_call 21; (with_reducible refine (max_R _ HC hm m1000 M HM).mono ?_); rintro e w1 ⟨rfl, rfl⟩)
                | fail)
              all_goals
                go_roundw
                case rel => exact ⟨N + 1, min b M, by omega, by go_num, by first | (rw [Nat.min_eq_left (by omega)]) | (rw [Nat.min_eq_right (by omega)]) | (congr 1; omega), HNX.out, HB3.out⟩
                case measure => simp [intOf]; omega
        · obtain rfl : N = al := by omega
          have HLL : Hid (IsBest ws m k b) := Lib.hid (LeastTo.best hm (by rw [HAL.out]; exact hl) fun K => mxN_bound hn hw.out K)
          have hbd : b ≤ 9663676416 := by
            have h1 := fun A h => (HLL.out).2 (sumF ws k) A h
            have h2 := h1 _ |> fun h => mt h (not_not_intro (all_on_one ws m k hm))
            have h3 := sum_bound hw.out
            have h4 : k * 1073741824 ≤ 9 * 1073741824 := Nat.mul_le_mul_right _ hn
            omega
          clear hl hb hNa hN
          go_wp2_with fail
          go_ret
          exact ⟨b, HLL.out, hbd, rfl, HB.out⟩
end Go.Proofs.Ytocemkbplgkalaa
