/- The walks of ticket.ticketsRight and ticket.Right. -/
import Derived.Test.YtfepgebnaglkaaaTicS
import Derived.Test.YtfepgebnaglkaaaTicT
namespace Go.Proofs.Ytfepgebnaglkaaa
open Go.RowKit

/-- Eight bools as a row. -/
def bRow (d : Nat → Bool) : Array Value := #[.bool (d 0), .bool (d 1), .bool (d 2), .bool (d 3), .bool (d 4), .bool (d 5), .bool (d 6), .bool (d 7)]
theorem bRow_at (d : Nat → Bool) {c : Nat} (h : c < 8) : (bRow d)[c]? = some (.bool (d c)) := by
  rcases eight_cases h with rfl | rfl | rfl | rfl | rfl | rfl | rfl | rfl <;> rfl
theorem bRow_set (d : Nat → Bool) {c : Nat} (h : c < 8) (v : Bool) : (bRow d).setIfInBounds c (.bool v) = bRow (upB d c v) := by
  rcases eight_cases h with rfl | rfl | rfl | rfl | rfl | rfl | rfl | rfl <;> rfl

set_option maxHeartbeats 1000000 in
set_option maxRecDepth 100000 in
theorem tickets_core (l : LockT) (n nx : Int) (R : Array Value) (HR : Hid (lockRow l = R)) (HN : Hid (l.now = n)) (HX : Hid (l.next = nx)) (h0 : 0 ≤ n) (h1 : n ≤ nx) (h2 : nx ≤ 1099511627776) (w : World) :
    Calls Try.prog 20 #[.agg R] w fun e w' => RetB (TickOk l) e ∧ Below w.heap.size w w' := by
  have q0 : R[0]? = some (.int .i64 nx) := by rw [← HR.out, ← HX.out]; rfl
  have q1 : R[1]? = some (.int .i64 n) := by rw [← HR.out, ← HN.out]; rfl
  have q2 : R[2]? = some (.int .i64 (l.mine 0)) := by rw [← HR.out]; rfl
  have q3 : R[3]? = some (.int .i64 (l.mine 1)) := by rw [← HR.out]; rfl
  have q4 : R[4]? = some (.int .i64 (l.mine 2)) := by rw [← HR.out]; rfl
  have q5 : R[5]? = some (.int .i64 (l.mine 3)) := by rw [← HR.out]; rfl
  have q6 : R[6]? = some (.int .i64 (l.mine 4)) := by rw [← HR.out]; rfl
  have q7 : R[7]? = some (.int .i64 (l.mine 5)) := by rw [← HR.out]; rfl
  have q8 : R[8]? = some (.int .i64 (l.mine 6)) := by rw [← HR.out]; rfl
  have q9 : R[9]? = some (.int .i64 (l.mine 7)) := by rw [← HR.out]; rfl
  go_enter Try.func20, Try.ntmps20
  go_wp2_with fail
  clear q2 q3 q4 q5 q6 q7 q8 q9
  go_loopw [4, 9] (fun x i wr => ∃ (k u : Nat) (d : Nat → Bool) (D : Array Value), k ≤ 8 ∧ u ≤ k ∧ i = .int .i64 k ∧ x = .int .i64 u ∧ Hid (TkS l k d u) ∧ Hid (bRow d = D) ∧ wr = (w.alloc (.cells R 25)).alloc (.cells D 23)) (fun _ i _ => 8 - (intOf i).toNat)
  case atStart => exact ⟨0, 0, fun _ => false, _, by omega, by omega, rfl, rfl, Lib.hid (tks_zero l), Lib.hid rfl, rfl⟩
  case round =>
    obtain ⟨k, u, d, D, hk, hu, rfl, rfl, HT, HD, rfl⟩ := hrel
    have BB := Lib.hid ((below_alloc w (.cells R 25)).alloc (by simp) (.cells D 23))
    by_cases hlt : k < 8
    · have hidx := fun w => idx_ints l.mine k hlt w
      obtain ⟨m, hm⟩ : ∃ m, l.mine k = m := ⟨_, rfl⟩
      rw [hm] at hidx
      have HM := Lib.hid hm
      clear hm
      by_cases g1 : m = -1
      · subst g1
        go_wp2_with fail
        go_roundw
        case rel => exact ⟨k + 1, u, d, D, by omega, by omega, by go_num, rfl, Lib.hid (tks_none HT.out HM.out), HD, rfl⟩
        case measure => simp [intOf]; omega
      have e1 : (m == -1) = false := by simpa using g1
      by_cases g2 : m < n
      · go_wp2_with fail
        go_ret
        exact ⟨⟨_, rfl, (fun h => by cases h), fun h => absurd h (tks_low hlt (by rw [HM.out]; exact g1) (by rw [HM.out, HN.out]; exact Or.inl g2))⟩, BB.out⟩
      by_cases g3 : nx ≤ m
      · go_wp2_with fail
        go_ret
        exact ⟨⟨_, rfl, (fun h => by cases h), fun h => absurd h (tks_low hlt (by rw [HM.out]; exact g1) (by rw [HM.out, HX.out]; exact Or.inr g3))⟩, BB.out⟩
      obtain ⟨j, rfl⟩ : ∃ j : Nat, m = n + j := ⟨(m - n).toNat, by omega⟩
      have hs : n + (j : Int) - n = j := by omega
      by_cases g4 : 8 ≤ j
      · go_wp2_with fail
        go_ret
        exact ⟨⟨_, rfl, (fun h => by cases h), fun h => absurd h (tks_far hlt (by rw [HN.out]; exact h0) (by rw [HN.out, HX.out]; exact h1) (by rw [HX.out]; exact h2) (by rw [HN.out, HM.out]; omega))⟩, BB.out⟩
      have hj : j < 8 := by omega
      obtain ⟨b, hb⟩ : ∃ b, d j = b := ⟨_, rfl⟩
      have hDj : D[j]? = some (.bool b) := by rw [← HD.out, bRow_at d hj, hb]
      have HB := Lib.hid hb
      clear hb
      cases b with
      | true =>
        go_wp2_with fail
        go_ret
        exact ⟨⟨_, rfl, (fun h => by cases h), fun h => absurd h (tks_twice HT.out hlt (by rw [HN.out]; exact HM.out) hj HB.out)⟩, BB.out⟩
      | false =>
        go_wp2_with fail
        go_roundw
        case rel => exact ⟨k + 1, u + 1, upB d j true, _, by omega, by omega, by go_num, by go_num, Lib.hid (tks_next HT.out (by rw [HN.out]; exact HM.out) hj (by rw [HN.out]; exact h0) (by rw [HN.out, HX.out]; omega) HB.out), Lib.hid (by rw [← HD.out, bRow_set d hj]), rfl⟩
        case measure => simp [intOf]; omega
    · obtain rfl : k = 8 := by omega
      have he := tks_end HT.out (by rw [HN.out]; exact h0) (by rw [HN.out, HX.out]; exact h1) (by rw [HX.out]; exact h2)
      rw [HN.out, HX.out] at he
      have HE := Lib.hid he
      clear he
      by_cases g : (u : Int) = nx - n
      · have g' : ((u : Int) == nx - n) = true := by simpa using g
        go_wp2_with fail
        go_ret
        exact ⟨⟨_, rfl, by simpa [g] using HE.out⟩, BB.out⟩
      · have g' : ((u : Int) == nx - n) = false := by simpa using g
        go_wp2_with fail
        go_ret
        exact ⟨⟨_, rfl, by simpa [g] using HE.out⟩, BB.out⟩
end Go.Proofs.Ytfepgebnaglkaaa
