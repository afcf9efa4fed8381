/- Package rank: the walks of checkTake and check. -/
import Derived.Test.YtcnnimhdnmmaoaaRnkA
import Derived.Deep.Cut
namespace Go.Proofs.Ytcnnimhdnmmaoaa
open Go.RowKit

/-- What a take answers, thread and lock given. -/
def takeX (K : Nat) (rk : Bool) (s : RkT) (t l : Nat) : Int :=
  if s.hold l = t then 6 else if rk = true ∧ hiK s.hold t l K = true then 8 else if ¬ s.wait t = -1 ∧ ¬ s.wait t = l then 3 else if ¬ s.hold l = -1 then 7 else 0
section
variable {w : World} {B H T K n : Nat} {rk : Bool} {s : RkT}
set_option maxHeartbeats 2000000 in
theorem checkTake_N (HS : Hid (StK w B H T K n rk s)) (hK : K ≤ 16) (t l : Nat) (ht : t < n) (hl : l < K) (x : Int) (hx : Hid (takeX K rk s t l = x)) :
    Calls Try.prog 29 #[.pointer (some ⟨B, 0, none⟩), .int .i64 t, .int .i64 l] w fun e w' => e = .returned (.int .i64 x) ∧ w = w' := by
  obtain ⟨c0, c1, c2⟩ := trio_at HS.out.b
  have d0 := HS.out.h.cell hl
  have d1 := HS.out.t.cell ht
  have hX := hx.out
  unfold takeX at hX
  have hkb : K - (l + 1) ≤ 9223372036854775807 := by omega
  have HB := Lib.hid (behind HS.out.h hl (K - (l + 1)))
  obtain ⟨q, hqq⟩ : ∃ q, hiK s.hold t l K = q := ⟨_, rfl⟩
  have hq := Lib.hid (hi_behind (K := K) (f := s.hold) (l := l) (t : Int))
  rw [hqq] at hX hq
  obtain ⟨hv, h1⟩ : ∃ v, s.hold l = v := ⟨_, rfl⟩
  obtain ⟨wv, h2⟩ : ∃ v, s.wait t = v := ⟨_, rfl⟩
  rw [h1] at d0 hX
  rw [h2] at d1 hX
  clear hx h1 h2 hqq
  have hwl : IntKind.i64.wrap ((l : Int) + 1) = (l : Int) + 1 := by simp only [IntKind.wrap_i64]; omega
  by_cases g1 : hv = t
  · subst g1
    obtain rfl : x = 6 := by rw [← hX]; exact if_pos rfl
    clear hX
    go_enter Try.func29, Try.ntmps29
    go_wp2_with (first
      | (go_at_call 17; (with_reducible refine (contains_N _ _ HB hkb _ hq).mono ?_); rintro e w1 ⟨rfl, rfl⟩)
      | fail)
    go_ret
    exact ⟨rfl, rfl⟩
  cases rk with
  | false =>
    by_cases g3 : wv = -1
    · subst g3
      by_cases g4 : hv = -1
      · subst g4
        obtain rfl : x = 0 := by rw [← hX]; rw [if_neg g1, if_neg (by simp)]; rw [if_neg (by simp), if_neg (by simp)]
        clear hX
        go_enter Try.func29, Try.ntmps29
        go_wp2_with (first
          | (go_at_call 17; (with_reducible refine (contains_N _ _ HB hkb _ hq).mono ?_); rintro e w1 ⟨rfl, rfl⟩)
          | fail)
        go_ret
        exact ⟨rfl, rfl⟩
      · obtain rfl : x = 7 := by rw [← hX]; rw [if_neg g1, if_neg (by simp)]; rw [if_neg (by simp), if_pos g4]
        clear hX
        go_enter Try.func29, Try.ntmps29
        go_wp2_with (first
          | (go_at_call 17; (with_reducible refine (contains_N _ _ HB hkb _ hq).mono ?_); rintro e w1 ⟨rfl, rfl⟩)
          | fail)
        go_ret
        exact ⟨rfl, rfl⟩
    · by_cases g5 : wv = l
      · subst g5
        by_cases g4 : hv = -1
        · subst g4
          obtain rfl : x = 0 := by rw [← hX]; rw [if_neg g1, if_neg (by simp)]; rw [if_neg (fun h => h.2 rfl), if_neg (by simp)]
          clear hX
          go_enter Try.func29, Try.ntmps29
          go_wp2_with (first
            | (go_at_call 17; (with_reducible refine (contains_N _ _ HB hkb _ hq).mono ?_); rintro e w1 ⟨rfl, rfl⟩)
            | fail)
          go_ret
          exact ⟨rfl, rfl⟩
        · obtain rfl : x = 7 := by rw [← hX]; rw [if_neg g1, if_neg (by simp)]; rw [if_neg (fun h => h.2 rfl), if_pos g4]
          clear hX
          go_enter Try.func29, Try.ntmps29
          go_wp2_with (first
            | (go_at_call 17; (with_reducible refine (contains_N _ _ HB hkb _ hq).mono ?_); rintro e w1 ⟨rfl, rfl⟩)
            | fail)
          go_ret
          exact ⟨rfl, rfl⟩
      · obtain rfl : x = 3 := by rw [← hX]; rw [if_neg g1, if_neg (by simp)]; rw [if_pos ⟨g3, g5⟩]
        have q3 : (wv != -1) = true := by simpa using g3
        have q5 : (wv != (l : Int)) = true := by simpa using g5
        clear hX
        go_enter Try.func29, Try.ntmps29
        go_wp2_with (first
          | (go_at_call 17; (with_reducible refine (contains_N _ _ HB hkb _ hq).mono ?_); rintro e w1 ⟨rfl, rfl⟩)
          | fail)
        go_ret
        exact ⟨rfl, rfl⟩
  | true =>
    cases q with
    | true =>
      have gk : ¬ l + 1 = K := by obtain ⟨i, hi, _⟩ := hq.out.1 rfl; omega
      obtain rfl : x = 8 := by rw [← hX]; rw [if_neg g1, if_pos ⟨rfl, rfl⟩]
      clear hX
      go_enter Try.func29, Try.ntmps29
      go_wp2_with (first
        | (go_at_call 17; (with_reducible refine (contains_N _ _ HB hkb _ hq).mono ?_); rintro e w1 ⟨rfl, rfl⟩)
        | fail)
      go_ret
      exact ⟨rfl, rfl⟩
    | false =>
      by_cases gk : l + 1 = K
      · subst gk
        have HB0 : Hid (IntAt w (some ⟨H, 0, none⟩) 0 0 s.hold) := Lib.hid ⟨(fun h => by cases h), fun h => by omega⟩
        have hq0 : Hid (false = true ↔ ∃ i, i < 0 ∧ s.hold i = (t : Int)) := Lib.hid ⟨fun h => (by cases h), fun ⟨i, h, _⟩ => by omega⟩
        by_cases g3 : wv = -1
        · subst g3
          by_cases g4 : hv = -1
          · subst g4
            obtain rfl : x = 0 := by rw [← hX]; rw [if_neg g1, if_neg (by simp)]; rw [if_neg (by simp), if_neg (by simp)]
            clear hX
            go_enter Try.func29, Try.ntmps29
            go_wp2_with (first
              | (go_at_call 17; (with_reducible refine (contains_N _ _ HB0 (by decide) _ hq0).mono ?_); rintro e w1 ⟨rfl, rfl⟩)
              | fail)
            go_ret
            exact ⟨rfl, rfl⟩
          · obtain rfl : x = 7 := by rw [← hX]; rw [if_neg g1, if_neg (by simp)]; rw [if_neg (by simp), if_pos g4]
            clear hX
            go_enter Try.func29, Try.ntmps29
            go_wp2_with (first
              | (go_at_call 17; (with_reducible refine (contains_N _ _ HB0 (by decide) _ hq0).mono ?_); rintro e w1 ⟨rfl, rfl⟩)
              | fail)
            go_ret
            exact ⟨rfl, rfl⟩
        · by_cases g5 : wv = l
          · subst g5
            by_cases g4 : hv = -1
            · subst g4
              obtain rfl : x = 0 := by rw [← hX]; rw [if_neg g1, if_neg (by simp)]; rw [if_neg (fun h => h.2 rfl), if_neg (by simp)]
              clear hX
              go_enter Try.func29, Try.ntmps29
              go_wp2_with (first
                | (go_at_call 17; (with_reducible refine (contains_N _ _ HB0 (by decide) _ hq0).mono ?_); rintro e w1 ⟨rfl, rfl⟩)
                | fail)
              go_ret
              exact ⟨rfl, rfl⟩
            · obtain rfl : x = 7 := by rw [← hX]; rw [if_neg g1, if_neg (by simp)]; rw [if_neg (fun h => h.2 rfl), if_pos g4]
              clear hX
              go_enter Try.func29, Try.ntmps29
              go_wp2_with (first
                | (go_at_call 17; (with_reducible refine (contains_N _ _ HB0 (by decide) _ hq0).mono ?_); rintro e w1 ⟨rfl, rfl⟩)
                | fail)
              go_ret
              exact ⟨rfl, rfl⟩
          · obtain rfl : x = 3 := by rw [← hX]; rw [if_neg g1, if_neg (by simp)]; rw [if_pos ⟨g3, g5⟩]
            have q3 : (wv != -1) = true := by simpa using g3
            have q5 : (wv != (l : Int)) = true := by simpa using g5
            clear hX
            go_enter Try.func29, Try.ntmps29
            go_wp2_with (first
              | (go_at_call 17; (with_reducible refine (contains_N _ _ HB0 (by decide) _ hq0).mono ?_); rintro e w1 ⟨rfl, rfl⟩)
              | fail)
            go_ret
            exact ⟨rfl, rfl⟩
      · skip
        by_cases g3 : wv = -1
        · subst g3
          by_cases g4 : hv = -1
          · subst g4
            obtain rfl : x = 0 := by rw [← hX]; rw [if_neg g1, if_neg (by simp)]; rw [if_neg (by simp), if_neg (by simp)]
            clear hX
            go_enter Try.func29, Try.ntmps29
            go_wp2_with (first
              | (go_at_call 17; (with_reducible refine (contains_N _ _ HB hkb _ hq).mono ?_); rintro e w1 ⟨rfl, rfl⟩)
              | fail)
            go_ret
            exact ⟨rfl, rfl⟩
          · obtain rfl : x = 7 := by rw [← hX]; rw [if_neg g1, if_neg (by simp)]; rw [if_neg (by simp), if_pos g4]
            clear hX
            go_enter Try.func29, Try.ntmps29
            go_wp2_with (first
              | (go_at_call 17; (with_reducible refine (contains_N _ _ HB hkb _ hq).mono ?_); rintro e w1 ⟨rfl, rfl⟩)
              | fail)
            go_ret
            exact ⟨rfl, rfl⟩
        · by_cases g5 : wv = l
          · subst g5
            by_cases g4 : hv = -1
            · subst g4
              obtain rfl : x = 0 := by rw [← hX]; rw [if_neg g1, if_neg (by simp)]; rw [if_neg (fun h => h.2 rfl), if_neg (by simp)]
              clear hX
              go_enter Try.func29, Try.ntmps29
              go_wp2_with (first
                | (go_at_call 17; (with_reducible refine (contains_N _ _ HB hkb _ hq).mono ?_); rintro e w1 ⟨rfl, rfl⟩)
                | fail)
              go_ret
              exact ⟨rfl, rfl⟩
            · obtain rfl : x = 7 := by rw [← hX]; rw [if_neg g1, if_neg (by simp)]; rw [if_neg (fun h => h.2 rfl), if_pos g4]
              clear hX
              go_enter Try.func29, Try.ntmps29
              go_wp2_with (first
                | (go_at_call 17; (with_reducible refine (contains_N _ _ HB hkb _ hq).mono ?_); rintro e w1 ⟨rfl, rfl⟩)
                | fail)
              go_ret
              exact ⟨rfl, rfl⟩
          · obtain rfl : x = 3 := by rw [← hX]; rw [if_neg g1, if_neg (by simp)]; rw [if_pos ⟨g3, g5⟩]
            have q3 : (wv != -1) = true := by simpa using g3
            have q5 : (wv != (l : Int)) = true := by simpa using g5
            clear hX
            go_enter Try.func29, Try.ntmps29
            go_wp2_with (first
              | (go_at_call 17; (with_reducible refine (contains_N _ _ HB hkb _ hq).mono ?_); rintro e w1 ⟨rfl, rfl⟩)
              | fail)
            go_ret
            exact ⟨rfl, rfl⟩
end
end Go.Proofs.Ytcnnimhdnmmaoaa
