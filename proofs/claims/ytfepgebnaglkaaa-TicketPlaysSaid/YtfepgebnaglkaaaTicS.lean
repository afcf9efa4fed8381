/- The walks of ticket.insideRight, ticketsRight, Right. -/
import Derived.Test.YtfepgebnaglkaaaTicR
import Derived.BigQuiet
import Derived.Deep.QuietTactic
namespace Go.Proofs.Ytfepgebnaglkaaa
open Go.RowKit

/-- The answer tells whether P. -/
def RetB (P : Prop) (e : Ending) : Prop := ∃ b, e = .returned (.bool b) ∧ (b = true ↔ P)
/-- Who is in has the turn. -/
def InsOk (l : LockT) (k : Nat) : Prop := ∀ c, c < k → l.inn c = true → l.mine c = l.now
theorem idx_bools (p : Nat → Bool) (k : Nat) (hk : k < 8) (w : World) : (Instr.index 23 (.agg #[.bool (p 0), .bool (p 1), .bool (p 2), .bool (p 3), .bool (p 4), .bool (p 5), .bool (p 6), .bool (p 7)]) (.int .i64 (k : Int))).run Try.prog w = .ok (.bool (p k)) w := by
  rcases eight_cases hk with rfl | rfl | rfl | rfl | rfl | rfl | rfl | rfl <;> kernel_rfl
theorem idx_ints (p : Nat → Int) (k : Nat) (hk : k < 8) (w : World) : (Instr.index 22 (.agg #[.int .i64 (p 0), .int .i64 (p 1), .int .i64 (p 2), .int .i64 (p 3), .int .i64 (p 4), .int .i64 (p 5), .int .i64 (p 6), .int .i64 (p 7)]) (.int .i64 (k : Int))).run Try.prog w = .ok (.int .i64 (p k)) w := by
  rcases eight_cases hk with rfl | rfl | rfl | rfl | rfl | rfl | rfl | rfl <;> kernel_rfl

set_option maxHeartbeats 1000000 in
set_option maxRecDepth 100000 in
theorem inside_core (l : LockT) (R : Array Value) (HR : Hid (lockRow l = R)) (w : World) :
    Calls Try.prog 21 #[.agg R] w fun e w' => RetB (InsOk l 8) e ∧ Below w.heap.size w w' := by
  have q1 : R[1]? = some (.int .i64 l.now) := by rw [← HR.out]; rfl
  have q10 : R[10]? = some (.bool (l.inn 0)) := by rw [← HR.out]; rfl
  have q11 : R[11]? = some (.bool (l.inn 1)) := by rw [← HR.out]; rfl
  have q12 : R[12]? = some (.bool (l.inn 2)) := by rw [← HR.out]; rfl
  have q13 : R[13]? = some (.bool (l.inn 3)) := by rw [← HR.out]; rfl
  have q14 : R[14]? = some (.bool (l.inn 4)) := by rw [← HR.out]; rfl
  have q15 : R[15]? = some (.bool (l.inn 5)) := by rw [← HR.out]; rfl
  have q16 : R[16]? = some (.bool (l.inn 6)) := by rw [← HR.out]; rfl
  have q17 : R[17]? = some (.bool (l.inn 7)) := by rw [← HR.out]; rfl
  go_enter Try.func21, Try.ntmps21
  go_wp2_with fail
  clear q10 q11 q12 q13 q14 q15 q16 q17
  go_loopw [7] (fun i wr => ∃ k : Nat, k ≤ 8 ∧ i = .int .i64 k ∧ Hid (InsOk l k) ∧ ∃ q, wr = (w.alloc (.cells R 25)).drewN q) (fun i _ => 8 - (intOf i).toNat)
  case atStart => exact ⟨0, by omega, rfl, Lib.hid fun c hc => by omega, 0, rfl⟩
  case round =>
    obtain ⟨k, hk, rfl, HI, q, rfl⟩ := hrel
    by_cases hlt : k < 8
    · have hidx := fun w => idx_bools l.inn k hlt w
      obtain ⟨t, ht⟩ : ∃ t, l.inn k = t := ⟨_, rfl⟩
      rw [ht] at hidx
      have HT := Lib.hid ht
      clear ht
      obtain ⟨m, hm⟩ : ∃ m, l.mine k = m := ⟨_, rfl⟩
      have q2 : R[2 + k]? = some (.int .i64 m) := by rw [← HR.out, lockRow_mine _ hlt, hm]
      have HM := Lib.hid hm
      clear hm
      cases t with
      | false =>
        go_wp2_with fail
        go_quiet (fail)
        go_wp2_with fail
        go_roundw
        case rel => exact ⟨k + 1, by omega, by go_num, Lib.hid fun c hc h => by
          by_cases e : c = k
          · rw [e, HT.out] at h; cases h
          · exact HI.out c (by omega) h, _, rfl⟩
        case measure => simp [intOf]; omega
      | true =>
        obtain ⟨n, hn⟩ : ∃ n, l.now = n := ⟨_, rfl⟩
        rw [hn] at q1
        have HN := Lib.hid hn
        clear hn
        by_cases e : m = n
        · subst e
          go_wp2_with fail
          go_quiet (fail)
          go_wp2_with fail
          go_roundw
          case rel => exact ⟨k + 1, by omega, by go_num, Lib.hid fun c hc h => by
            by_cases e : c = k
            · rw [e, HM.out, HN.out]
            · exact HI.out c (by omega) h, _, rfl⟩
          case measure => simp [intOf]; omega
        · have e2 : (m == n) = false := by simpa using e
          go_wp2_with fail
          go_quiet (fail)
          go_wp2_with fail
          go_ret
          refine ⟨⟨_, rfl, (fun h => by cases h), fun h => absurd (h k hlt HT.out) (by rw [HM.out, HN.out]; exact e)⟩, below_drewN (below_drewN (below_alloc w _) _) _⟩
    · obtain rfl : k = 8 := by omega
      go_wp2_with fail
      go_ret
      exact ⟨⟨_, rfl, fun _ => HI.out, fun _ => rfl⟩, below_drewN (below_alloc w _) _⟩
end Go.Proofs.Ytfepgebnaglkaaa
