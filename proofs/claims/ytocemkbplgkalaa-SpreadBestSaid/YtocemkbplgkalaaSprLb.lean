/- Best answers what the document says: the walk of SpreadBest. -/
import Derived.Test.YtocemkbplgkalaaSprBe
namespace Go.Proofs.Ytocemkbplgkalaa
open Go.RowKit

set_option maxHeartbeats 1000000 in
set_option maxRecDepth 100000 in
theorem lbest_bad {ad : Option Addr} {cap n : Nat} {f : Nat → Int} (C : Int) (w : World) (HA : Hid (IntAt w ad cap n f)) (hn : n ≤ 9223372036854775807) (hq : Hid (wrongV f n C = 2)) :
    Calls Try.prog 4 #[.slice ad n cap, .int .i64 C] w (Yes w) := by
  go_enter Try.func4, Try.ntmps4
  go_wp2_with (first
    | (go_at_call 17; (with_reducible refine (best_bad C _ HA hn hq).mono ?_); rintro e w1 ⟨rfl, rfl⟩)
    | (go_at_call 12; (with_reducible refine (ewrong_R C _ HA hn 2 hq).mono ?_); rintro e w1 ⟨rfl, rfl⟩)
    | fail)
  go_ret
  exact ⟨rfl, Below.refl _ _⟩
set_option maxHeartbeats 1000000 in
set_option maxRecDepth 100000 in
theorem lbest_full {ad : Option Addr} {cap n : Nat} {f : Nat → Int} (C : Int) (w : World) (HA : Hid (IntAt w ad cap n f)) (hn : n ≤ 9223372036854775807) (h9 : 9 < n) (hq : Hid (wrongV f n C = 0)) :
    Calls Try.prog 4 #[.slice ad n cap, .int .i64 C] w (Yes w) := by
  go_enter Try.func4, Try.ntmps4
  go_wp2_with (first
    | (go_at_call 17; (with_reducible refine (best_full C _ HA hn h9 hq).mono ?_); rintro e w1 ⟨rfl, rfl⟩)
    | (go_at_call 12; (with_reducible refine (ewrong_R C _ HA hn 0 hq).mono ?_); rintro e w1 ⟨rfl, rfl⟩)
    | fail)
  go_ret
  exact ⟨rfl, Below.refl _ _⟩
set_option maxHeartbeats 1000000 in
set_option maxRecDepth 100000 in
theorem lbest_ok {ad : Option Addr} {cap n m : Nat} {ws : Nat → Nat} (w : World) (HA : Hid (IntAt w ad cap n (fun i => (ws i : Int)))) (hn : n ≤ 9) (hm : 0 < m) (hm8 : m ≤ 8) (hw : Hid (∀ i, i < n → ws i ≤ 1073741824)) (hq : Hid (wrongV (fun i => (ws i : Int)) n m = 0)) :
    Calls Try.prog 4 #[.slice ad n cap, .int .i64 (m : Int)] w (Yes w) := by
  have m9 : m ≤ 9 := by omega
  have n9 : n ≤ 9223372036854775807 := by omega
  go_enter Try.func4, Try.ntmps4
  go_wp2_with (first
    | (go_at_call 17; (with_reducible refine (best_ok _ HA hn hm m9 hw hq).mono ?_); rintro e w1 ⟨v, hv, hv2, rfl, hb⟩; have HV := Lib.hid hv; have HB := Lib.hid hb; have HA1 := Lib.hid (HA.out.step hb); clear hv hb)
    | (go_at_call 12; (with_reducible refine (ewrong_R (m : Int) _ HA1 n9 0 hq).mono ?_); rintro e w2 ⟨rfl, rfl⟩)
    | fail)
  go_loop [8, 38] (fun x i => ∃ k : Nat, k ≤ n ∧ i = .int .i64 k ∧ x = .int .i64 (pw m k : Nat)) (fun _ i => n - (intOf i).toNat)
  case atStart => exact ⟨0, Nat.zero_le _, rfl, rfl⟩
  case round =>
    obtain ⟨k, hk, rfl, rfl⟩ := hrel
    have hpb := pw_bound (k := k) hm8 (by omega)
    by_cases hlt : k < n
    · have hpb2 := pw_bound (k := k + 1) hm8 (by omega)
      have hst : pw m (k + 1) = pw m k * m := rfl
      obtain ⟨x, hx⟩ : ∃ x, pw m k = x := ⟨_, rfl⟩
      obtain ⟨y, hy⟩ : ∃ y, pw m (k + 1) = y := ⟨_, rfl⟩
      rw [hx, hy] at hst
      rw [hy] at hpb2
      rw [hx]
      have HY := Lib.hid hy
      have p1 : (x : Int) * (m : Int) = (y : Int) := by rw [← Int.natCast_mul, hst]
      clear hx hy hst hpb
      go_wp2_with fail
      go_round
      case rel => exact ⟨k + 1, by omega, by go_num, by rw [HY.out]⟩
      case measure => simp [intOf]; omega
    · obtain rfl : k = n := by omega
      obtain ⟨al, hal⟩ : ∃ x, pw m k = x := ⟨_, rfl⟩
      rw [hal] at hpb ⊢
      clear hal hlt hk
      by_cases hbig : 50000 < al
      · go_wp2_with fail
        go_ret
        exact ⟨rfl, HB.out⟩
      · go_wp2_with (first
          | (go_at_call 18; (with_reducible refine (ebest_R _ HA1 hn hm hm8 hw).mono ?_); rintro e w3 ⟨u, hu, hu2, rfl, hb3⟩; obtain rfl := best_uniq hu HV.out; have HB3 := Lib.hid (grow HB.out hb3); clear hb3 hu)
          | fail)
        go_ret
        exact ⟨rfl, HB3.out⟩
theorem spreadBest_walk (v : Value) (C : Int) (w : World) (g : ArgI w v) : Calls Try.prog 4 #[v, .int .i64 C] w (Yes w) := by
  obtain ⟨ad, n, cap, f, rfl, hn, HA⟩ := g
  by_cases hq : wrongV f n C = 0
  · by_cases h9 : n ≤ 9
    · obtain ⟨m, ws, rfl, ⟨h1, h2, h3⟩, h4, h5⟩ := wrong_pass hq
      exact lbest_ok w (Lib.hid (HA.congr fun i hi => (h5 i hi).symm)) h9 h1 h2 (Lib.hid h4) (Lib.hid (wrong_zero h3 h1 h2 h4))
    · exact lbest_full C w (Lib.hid HA) hn (by omega) (Lib.hid hq)
  · exact lbest_bad C w (Lib.hid HA) hn (Lib.hid (wrong_two hq))
end Go.Proofs.Ytocemkbplgkalaa
