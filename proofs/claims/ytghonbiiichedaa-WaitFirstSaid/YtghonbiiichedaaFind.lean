/- slices.Index and slices.Contains of numbers. Generic. -/
import Derived.Test.YtghonbiiichedaaNum
namespace Go.Proofs.Ytghonbiiichedaa
open Go.RowKit

/-- Where a number stands first. -/
def FirstI (f : Nat → Int) (n : Nat) (v r : Int) : Prop := (r = -1 ∧ ∀ i, i < n → ¬ f i = v) ∨ ∃ i : Nat, i < n ∧ r = i ∧ f i = v ∧ ∀ j, j < i → ¬ f j = v
def FoundI (f : Nat → Int) (n : Nat) (v : Int) (w : World) (e : Ending) (w' : World) : Prop := ∃ r : Int, FirstI f n v r ∧ e = .returned (.int .i64 r) ∧ w = w'
set_option maxHeartbeats 400000 in
theorem index_F {ad : Option Addr} {cap n : Nat} {f : Nat → Int} (v : Int) (w : World) (HA : Hid (IntAt w ad cap n f)) (hn : n ≤ 9223372036854775807) :
    Calls Try.prog 19 #[.slice ad n cap, .int .i64 v] w (FoundI f n v w) := by
  go_enter Try.func19, Try.ntmps19
  go_wp2
  go_loop [8] (fun i => ∃ k : Nat, k ≤ n ∧ i = .int .i64 k ∧ ∀ j, j < k → ¬ f j = v) (fun i => n - (intOf i).toNat)
  case atStart => exact ⟨0, Nat.zero_le _, rfl, fun j hj => by omega⟩
  case round =>
    obtain ⟨k, hk, rfl, hno⟩ := hrel
    have HN := Lib.hid hno
    clear hno
    by_cases hlt : k < n
    · obtain ⟨b, off, rfl, _, ck⟩ := HA.out.get hlt
      obtain ⟨x, hx⟩ : ∃ x, f k = x := ⟨_, rfl⟩
      rw [hx] at ck
      have HX := Lib.hid hx
      clear hx
      by_cases hv : v = x
      · subst hv
        go_wp2
        go_ret
        exact ⟨k, Or.inr ⟨k, hlt, rfl, HX.out, HN.out⟩, rfl, rfl⟩
      · go_wp2
        go_round
        case rel => exact ⟨k + 1, by omega, by go_num, fun j hj => by
          by_cases e : j = k
          · rw [e, HX.out]; exact fun h => hv h.symm
          · exact HN.out j (by omega)⟩
        case measure => simp [intOf]; omega
    · obtain rfl : k = n := by omega
      clear hlt hk
      go_wp2
      go_ret
      exact ⟨-1, Or.inl ⟨rfl, HN.out⟩, rfl, rfl⟩
set_option maxHeartbeats 400000 in
theorem contains_N {ad : Option Addr} {cap n : Nat} {f : Nat → Int} (v : Int) (w : World) (HA : Hid (IntAt w ad cap n f)) (hn : n ≤ 9223372036854775807) (q : Bool) (hq : Hid (q = true ↔ ∃ i, i < n ∧ f i = v)) :
    Calls Try.prog 13 #[.slice ad n cap, .int .i64 v] w fun e w' => e = .returned (.bool q) ∧ w = w' := by
  cases q with
  | true =>
    have hr : ∀ r, FirstI f n v r → 0 ≤ r := fun r h => by
      rcases h with ⟨_, h⟩ | ⟨k, hk, rfl, h1, h2⟩
      · obtain ⟨i, hi, e⟩ := hq.out.1 rfl
        exact absurd e (h i hi)
      · omega
    have HR := Lib.hid hr
    clear hr
    go_enter Try.func13, Try.ntmps13
    go_wp2_with (first
      | (go_at_call 19; (with_reducible refine (index_F v _ HA hn).mono ?_); rintro e w1 ⟨r, h1, rfl, rfl⟩; have hr0 := HR.out r h1; have hr1 : decide (0 ≤ r) = true := (decide_eq_true hr0))
      | fail)
    go_ret
    exact ⟨rfl, rfl⟩
  | false =>
    have hr : ∀ r, FirstI f n v r → r = -1 := fun r h => by
      rcases h with ⟨h, _⟩ | ⟨k, hk, rfl, h1, h2⟩
      · exact h
      · have := hq.out.2 ⟨k, hk, h1⟩
        cases this
    have HR := Lib.hid hr
    clear hr
    go_enter Try.func13, Try.ntmps13
    go_wp2_with (first
      | (go_at_call 19; (with_reducible refine (index_F v _ HA hn).mono ?_); rintro e w1 ⟨r, h1, rfl, rfl⟩; obtain rfl := HR.out r h1)
      | fail)
    go_ret
    exact ⟨rfl, rfl⟩
end Go.Proofs.Ytghonbiiichedaa
