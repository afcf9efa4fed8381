/- Package rank: the state in memory; within, slices.Contains, check. -/
import Derived.Test.YtcnnimhdnmmaoaaNum
import Derived.Test.YtcnnimhdnmmaoaaRankQ
namespace Go.Proofs.Ytcnnimhdnmmaoaa
open Go.RowKit

/-- rank.state in memory. -/
structure StK (w : World) (B H T K n : Nat) (rk : Bool) (s : RkT) : Prop where
  b : w.heap[B]? = some (.cells #[.slice (some ⟨H, 0, none⟩) K K, .slice (some ⟨T, 0, none⟩) n n, .bool rk] 41 (0, 0))
  h : RowZ w H K s.hold
  t : RowZ w T n s.wait
  ne : ¬ H = T
theorem StK.step {w w' : World} {B H T K n : Nat} {rk : Bool} {s : RkT} (h : StK w B H T K n rk s) (hb : Below w.heap.size w w') : StK w' B H T K n rk s :=
  ⟨heap_step h.b hb, h.h.step hb, h.t.step hb, h.ne⟩
set_option maxHeartbeats 1000000 in
theorem within_N {ad : Option Addr} {n cap : Nat} (x : Int) (w : World) (q : Bool) (hq : Hid (q = decide (0 ≤ x ∧ x < n))) :
    Calls Try.prog 27 #[.int .i64 x, .slice ad n cap] w fun e w' => e = .returned (.bool q) ∧ w = w' := by
  by_cases h0 : 0 ≤ x
  · by_cases h1 : x < n
    · obtain rfl : q = true := by rw [hq.out, decide_eq_true ⟨h0, h1⟩]
      go_enter Try.func27, Try.ntmps27
      go_wp2_with fail
      go_ret
      exact ⟨rfl, rfl⟩
    · obtain rfl : q = false := by rw [hq.out, decide_eq_false (fun h => h1 h.2)]
      go_enter Try.func27, Try.ntmps27
      go_wp2_with fail
      go_ret
      exact ⟨rfl, rfl⟩
  · obtain rfl : q = false := by rw [hq.out, decide_eq_false (fun h => h0 h.1)]
    go_enter Try.func27, Try.ntmps27
    go_wp2_with fail
    go_ret
    exact ⟨rfl, rfl⟩
theorem within_Q {ad : Option Addr} {n cap : Nat} (x : Int) (w : World) (q : Bool) (hq : Hid (q = decide (0 ≤ x ∧ x < n))) :
    Calls Try.prog 27 #[.int .i64 x, .slice ad n cap] w fun e w' => e = .returned (.bool q) ∧ w' = w := (within_N x w q hq).mono (fun _ _ h => ⟨h.1, h.2.symm⟩)
/-- Where a number stands first. -/
def FirstI (f : Nat → Int) (n : Nat) (v r : Int) : Prop := (r = -1 ∧ ∀ i, i < n → ¬ f i = v) ∨ ∃ i : Nat, i < n ∧ r = i ∧ f i = v ∧ ∀ j, j < i → ¬ f j = v
def FoundI (f : Nat → Int) (n : Nat) (v : Int) (w : World) (e : Ending) (w' : World) : Prop := ∃ r : Int, FirstI f n v r ∧ e = .returned (.int .i64 r) ∧ w = w'
set_option maxHeartbeats 400000 in
theorem index_F {ad : Option Addr} {cap n : Nat} {f : Nat → Int} (v : Int) (w : World) (HA : Hid (IntAt w ad cap n f)) (hn : n ≤ 9223372036854775807) :
    Calls Try.prog 25 #[.slice ad n cap, .int .i64 v] w (FoundI f n v w) := by
  go_enter Try.func25, Try.ntmps25
  go_wp2
  go_loop [8] (fun i => ∃ k : Nat, k ≤ n ∧ i = .int .i64 k ∧ ∀ j, j < k → ¬ f j = v) (fun i => n - (intOf i).toNat)
  case atStart => exact ⟨0, Nat.zero_le _, rfl, fun j hj => by omega⟩
  case round =>
    obtain ⟨k, hk, rfl, hno⟩ := hrel
    have HN := Lib.hid hno
    clear hno
    by_cases hlt : k < n
    · obtain ⟨b, off, rfl, _, ck⟩ := HA.out.get hlt
      obtain ⟨x, hx⟩ : ∃ x, f k = x := ⟨_, rfl⟩
      rw [hx] at ck
      have HX := Lib.hid hx
      clear hx
      by_cases hv : v = x
      · subst hv
        go_wp2
        go_ret
        exact ⟨k, Or.inr ⟨k, hlt, rfl, HX.out, HN.out⟩, rfl, rfl⟩
      · go_wp2
        go_round
        case rel => exact ⟨k + 1, by omega, by go_num, fun j hj => by
          by_cases e : j = k
          · rw [e, HX.out]; exact fun h => hv h.symm
          · exact HN.out j (by omega)⟩
        case measure => simp [intOf]; omega
    · obtain rfl : k = n := by omega
      clear hlt hk
      go_wp2
      go_ret
      exact ⟨-1, Or.inl ⟨rfl, HN.out⟩, rfl, rfl⟩
set_option maxHeartbeats 400000 in
theorem contains_N {ad : Option Addr} {cap n : Nat} {f : Nat → Int} (v : Int) (w : World) (HA : Hid (IntAt w ad cap n f)) (hn : n ≤ 9223372036854775807) (q : Bool) (hq : Hid (q = true ↔ ∃ i, i < n ∧ f i = v)) :
    Calls Try.prog 17 #[.slice ad n cap, .int .i64 v] w fun e w' => e = .returned (.bool q) ∧ w = w' := by
  cases q with
  | true =>
    have hr : ∀ r, FirstI f n v r → 0 ≤ r := fun r h => by
      rcases h with ⟨_, h⟩ | ⟨k, hk, rfl, h1, h2⟩
      · obtain ⟨i, hi, e⟩ := hq.out.1 rfl
        exact absurd e (h i hi)
      · omega
    have HR := Lib.hid hr
    clear hr
    go_enter Try.func17, Try.ntmps17
    go_wp2_with (first
      | (go_at_call 25; (with_reducible refine (index_F v _ HA hn).mono ?_); rintro e w1 ⟨r, h1, rfl, rfl⟩; have hr0 := HR.out r h1; have hr1 : decide (0 ≤ r) = true := (decide_eq_true hr0))
      | fail)
    go_ret
    exact ⟨rfl, rfl⟩
  | false =>
    have hr : ∀ r, FirstI f n v r → r = -1 := fun r h => by
      rcases h with ⟨h, _⟩ | ⟨k, hk, rfl, h1, h2⟩
      · exact h
      · have := hq.out.2 ⟨k, hk, h1⟩
        cases this
    have HR := Lib.hid hr
    clear hr
    go_enter Try.func17, Try.ntmps17
    go_wp2_with (first
      | (go_at_call 25; (with_reducible refine (index_F v _ HA hn).mono ?_); rintro e w1 ⟨r, h1, rfl, rfl⟩; obtain rfl := HR.out r h1)
      | fail)
    go_ret
    exact ⟨rfl, rfl⟩
section
variable {w : World} {B H T K n : Nat} {rk : Bool} {s : RkT}
set_option maxHeartbeats 1000000 in
theorem checkGive_N (HS : Hid (StK w B H T K n rk s)) (t l : Nat) (ht : t < n) (hl : l < K) (x : Int) (hx : Hid ((if ¬ s.hold l = t ∨ ¬ s.wait t = -1 then (3 : Int) else 0) = x)) :
    Calls Try.prog 28 #[.pointer (some ⟨B, 0, none⟩), .int .i64 t, .int .i64 l] w fun e w' => e = .returned (.int .i64 x) ∧ w = w' := by
  obtain ⟨c0, c1, c2⟩ := trio_at HS.out.b
  have d0 := HS.out.h.cell hl
  have d1 := HS.out.t.cell ht
  have hX := hx.out
  obtain ⟨hv, h1⟩ : ∃ v, s.hold l = v := ⟨_, rfl⟩
  obtain ⟨wv, h2⟩ : ∃ v, s.wait t = v := ⟨_, rfl⟩
  rw [h1] at d0 hX
  rw [h2] at d1 hX
  clear hx h1 h2
  by_cases g1 : hv = t
  · subst g1
    by_cases g2 : wv = -1
    · subst g2
      obtain rfl : x = 0 := by rw [← hX, if_neg (by simp)]
      clear hX
      go_enter Try.func28, Try.ntmps28
      go_wp2_with fail
      go_ret
      exact ⟨rfl, rfl⟩
    · obtain rfl : x = 3 := by rw [← hX, if_pos (Or.inr g2)]
      clear hX
      go_enter Try.func28, Try.ntmps28
      go_wp2_with fail
      go_ret
      exact ⟨rfl, rfl⟩
  · obtain rfl : x = 3 := by rw [← hX, if_pos (Or.inl g1)]
    clear hX
    go_enter Try.func28, Try.ntmps28
    go_wp2_with fail
    go_ret
    exact ⟨rfl, rfl⟩
/-- The locks behind one. -/
theorem behind {f : Nat → Int} {l : Nat} (r : RowZ w H K f) (hl : l < K) (c : Nat) : IntAt w (some ⟨H, l + 1, none⟩) c (K - (l + 1)) (fun i => f (l + 1 + i)) :=
  ⟨(fun h => by cases h), fun _ => ⟨H, l + 1, rfl, r.lt, fun i hi => r.cell (by omega)⟩⟩
theorem hi_behind {f : Nat → Int} {l : Nat} (th : Int) : hiK f th l K = true ↔ ∃ i, i < K - (l + 1) ∧ f (l + 1 + i) = th := by
  rw [hiK_iff]
  constructor
  · rintro ⟨m, h1, h2, h3⟩
    exact ⟨m - (l + 1), by omega, by rw [show l + 1 + (m - (l + 1)) = m by omega]; exact h2⟩
  · rintro ⟨i, h1, h2⟩
    exact ⟨l + 1 + i, by omega, h2, by omega⟩
end
end Go.Proofs.Ytcnnimhdnmmaoaa
