/- Walks: bits.Has. -/
import Derived.Test.YtgddbmbljlngnaaDoorBitsA
namespace Go.Proofs.YtgddbmbljlngnaaDoor
open Go.RowKit

theorem has_out (a b c d : Nat) (n : Int) (w : World) (hn : n < 0 ∨ 256 ≤ n) :
    Calls Tryd.prog 19 #[.agg #[.int .u64 a, .int .u64 b, .int .u64 c, .int .u64 d], .int .i64 n] w fun e w' => e = .returned (.bool false) ∧ Below w.heap.size w w' := by
  go_enter Tryd.func19, Tryd.ntmps19
  go_wp2_with fail
  go_quiet ((go_at_call 34; exact Calls.quiet_of_same ((inRange_no _ _ hn).mono (fun _ _ h => ⟨h.1, h.2.symm⟩))))
  go_wp2
  go_ret
  refine ⟨rfl, ?_⟩
  exact below_drewN (((Below.refl _ _).alloc (Nat.le_refl _) _)) _

theorem has_0 (a b c d n : Nat) (w : World) (hn : n < 256) (hq : (n : Int) / 64 = 0) (t : Bool) (ht : Hid (((Go.bits .and .u64 a (2 ^ (n % 64) : Nat)) != 0) = t)) :
    Calls Tryd.prog 19 #[.agg #[.int .u64 a, .int .u64 b, .int .u64 c, .int .u64 d], .int .i64 n] w fun e w' => e = .returned (.bool t) ∧ Below w.heap.size w w' := by
  go_enter Tryd.func19, Tryd.ntmps19
  go_wp2_with fail
  go_quiet (first | (go_at_call 34; exact Calls.quiet_of_same ((inRange_yes _ _ (by omega) (by omega)).mono (fun _ _ h => ⟨h.1, h.2.symm⟩))) | (go_at_call 35; exact Calls.quiet_of_same ((bit_any _ _ hn).mono (fun _ _ h => ⟨h.1, h.2.symm⟩))))
  go_wp2
  go_ret
  refine ⟨congrArg (fun z => Ending.returned (.bool z)) ?_, below_drewN (((Below.refl _ _).alloc (Nat.le_refl _) _)) _⟩
  rw [← ht.out]
  simp

theorem has_1 (a b c d n : Nat) (w : World) (hn : n < 256) (hq : (n : Int) / 64 = 1) (t : Bool) (ht : Hid (((Go.bits .and .u64 b (2 ^ (n % 64) : Nat)) != 0) = t)) :
    Calls Tryd.prog 19 #[.agg #[.int .u64 a, .int .u64 b, .int .u64 c, .int .u64 d], .int .i64 n] w fun e w' => e = .returned (.bool t) ∧ Below w.heap.size w w' := by
  go_enter Tryd.func19, Tryd.ntmps19
  go_wp2_with fail
  go_quiet (first | (go_at_call 34; exact Calls.quiet_of_same ((inRange_yes _ _ (by omega) (by omega)).mono (fun _ _ h => ⟨h.1, h.2.symm⟩))) | (go_at_call 35; exact Calls.quiet_of_same ((bit_any _ _ hn).mono (fun _ _ h => ⟨h.1, h.2.symm⟩))))
  go_wp2
  go_ret
  refine ⟨congrArg (fun z => Ending.returned (.bool z)) ?_, below_drewN (((Below.refl _ _).alloc (Nat.le_refl _) _)) _⟩
  rw [← ht.out]
  simp

theorem has_2 (a b c d n : Nat) (w : World) (hn : n < 256) (hq : (n : Int) / 64 = 2) (t : Bool) (ht : Hid (((Go.bits .and .u64 c (2 ^ (n % 64) : Nat)) != 0) = t)) :
    Calls Tryd.prog 19 #[.agg #[.int .u64 a, .int .u64 b, .int .u64 c, .int .u64 d], .int .i64 n] w fun e w' => e = .returned (.bool t) ∧ Below w.heap.size w w' := by
  go_enter Tryd.func19, Tryd.ntmps19
  go_wp2_with fail
  go_quiet (first | (go_at_call 34; exact Calls.quiet_of_same ((inRange_yes _ _ (by omega) (by omega)).mono (fun _ _ h => ⟨h.1, h.2.symm⟩))) | (go_at_call 35; exact Calls.quiet_of_same ((bit_any _ _ hn).mono (fun _ _ h => ⟨h.1, h.2.symm⟩))))
  go_wp2
  go_ret
  refine ⟨congrArg (fun z => Ending.returned (.bool z)) ?_, below_drewN (((Below.refl _ _).alloc (Nat.le_refl _) _)) _⟩
  rw [← ht.out]
  simp

theorem has_3 (a b c d n : Nat) (w : World) (hn : n < 256) (hq : (n : Int) / 64 = 3) (t : Bool) (ht : Hid (((Go.bits .and .u64 d (2 ^ (n % 64) : Nat)) != 0) = t)) :
    Calls Tryd.prog 19 #[.agg #[.int .u64 a, .int .u64 b, .int .u64 c, .int .u64 d], .int .i64 n] w fun e w' => e = .returned (.bool t) ∧ Below w.heap.size w w' := by
  go_enter Tryd.func19, Tryd.ntmps19
  go_wp2_with fail
  go_quiet (first | (go_at_call 34; exact Calls.quiet_of_same ((inRange_yes _ _ (by omega) (by omega)).mono (fun _ _ h => ⟨h.1, h.2.symm⟩))) | (go_at_call 35; exact Calls.quiet_of_same ((bit_any _ _ hn).mono (fun _ _ h => ⟨h.1, h.2.symm⟩))))
  go_wp2
  go_ret
  refine ⟨congrArg (fun z => Ending.returned (.bool z)) ?_, below_drewN (((Below.refl _ _).alloc (Nat.le_refl _) _)) _⟩
  rw [← ht.out]
  simp
end Go.Proofs.YtgddbmbljlngnaaDoor
