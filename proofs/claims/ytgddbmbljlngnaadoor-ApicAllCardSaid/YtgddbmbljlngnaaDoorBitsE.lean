/- Walks: bits.Top, by the highest word that is not 0. -/
import Derived.Test.YtgddbmbljlngnaaDoorBitsA
import Derived.Test.YtgddbmbljlngnaaDoorShelf
namespace Go.Proofs.YtgddbmbljlngnaaDoor
open Go.RowKit

theorem len64_k (x k : Nat) (w : World) (h1 : x < 2 ^ 64) (hk : Hid (Lib.bitLen x = k)) :
    Calls Tryd.prog 33 #[.int .u64 x] w fun e w' => e = .returned (.int .i64 k) ∧ w = w' := by
  rw [← hk.out]
  exact len64_any x w h1

theorem tz64_k (x k : Nat) (w : World) (h1 : x < 2 ^ 64) (hT : Tab w) (hk : Hid (Lib.ctz 64 x = k)) :
    Calls Tryd.prog 40 #[.int .u64 x] w fun e w' => e = .returned (.int .i64 k) ∧ w = w' := by
  rw [← hk.out]
  exact tz64_any x w h1 hT

theorem top_3 (a b c d k : Nat) (w : World) (hx : d < 2 ^ 64) (hk : Hid (Lib.bitLen d = k)) (hk1 : k ≤ 64) (hk0 : 1 ≤ k) (nz : ((d : Int) != 0) = true)  :
    Calls Tryd.prog 18 #[.agg #[.int .u64 a, .int .u64 b, .int .u64 c, .int .u64 d]] w fun e w' => e = .returned (.int .i64 ((192 + k - 1 : Nat) : Int)) ∧ Below w.heap.size w w' := by
  have HX := Lib.hid hx
  clear hx
  go_enter Tryd.func18, Tryd.ntmps18
  go_wp2
  refine wp_loop_rounds 5 ?_
  rw [rounds_succ]
  go_wp2_with (go_at_call 33; refine (len64_k _ k _ HX.out hk).mono ?_; rintro e w' ⟨rfl, rfl⟩)
  go_ret
  refine ⟨congrArg (fun z => Ending.returned (.int .i64 z)) ?_, (Below.refl _ _).alloc (Nat.le_refl _) _⟩
  omega

theorem top_2 (a b c d k : Nat) (w : World) (hx : c < 2 ^ 64) (hk : Hid (Lib.bitLen c = k)) (hk1 : k ≤ 64) (hk0 : 1 ≤ k) (nz : ((c : Int) != 0) = true) (z3 : ((d : Int) != 0) = false) :
    Calls Tryd.prog 18 #[.agg #[.int .u64 a, .int .u64 b, .int .u64 c, .int .u64 d]] w fun e w' => e = .returned (.int .i64 ((128 + k - 1 : Nat) : Int)) ∧ Below w.heap.size w w' := by
  have HX := Lib.hid hx
  clear hx
  go_enter Tryd.func18, Tryd.ntmps18
  go_wp2
  refine wp_loop_rounds 5 ?_
  rw [rounds_succ]
  go_wp2_with (go_at_call 33; fail)
  rw [rounds_succ]
  go_wp2_with (go_at_call 33; refine (len64_k _ k _ HX.out hk).mono ?_; rintro e w' ⟨rfl, rfl⟩)
  go_ret
  refine ⟨congrArg (fun z => Ending.returned (.int .i64 z)) ?_, (Below.refl _ _).alloc (Nat.le_refl _) _⟩
  omega

theorem top_1 (a b c d k : Nat) (w : World) (hx : b < 2 ^ 64) (hk : Hid (Lib.bitLen b = k)) (hk1 : k ≤ 64) (hk0 : 1 ≤ k) (nz : ((b : Int) != 0) = true) (z2 : ((c : Int) != 0) = false) (z3 : ((d : Int) != 0) = false) :
    Calls Tryd.prog 18 #[.agg #[.int .u64 a, .int .u64 b, .int .u64 c, .int .u64 d]] w fun e w' => e = .returned (.int .i64 ((64 + k - 1 : Nat) : Int)) ∧ Below w.heap.size w w' := by
  have HX := Lib.hid hx
  clear hx
  go_enter Tryd.func18, Tryd.ntmps18
  go_wp2
  refine wp_loop_rounds 5 ?_
  rw [rounds_succ]
  go_wp2_with (go_at_call 33; fail)
  rw [rounds_succ]
  go_wp2_with (go_at_call 33; fail)
  rw [rounds_succ]
  go_wp2_with (go_at_call 33; refine (len64_k _ k _ HX.out hk).mono ?_; rintro e w' ⟨rfl, rfl⟩)
  go_ret
  refine ⟨congrArg (fun z => Ending.returned (.int .i64 z)) ?_, (Below.refl _ _).alloc (Nat.le_refl _) _⟩
  omega

theorem top_0 (a b c d k : Nat) (w : World) (hx : a < 2 ^ 64) (hk : Hid (Lib.bitLen a = k)) (hk1 : k ≤ 64) (hk0 : 1 ≤ k) (nz : ((a : Int) != 0) = true) (z1 : ((b : Int) != 0) = false) (z2 : ((c : Int) != 0) = false) (z3 : ((d : Int) != 0) = false) :
    Calls Tryd.prog 18 #[.agg #[.int .u64 a, .int .u64 b, .int .u64 c, .int .u64 d]] w fun e w' => e = .returned (.int .i64 ((0 + k - 1 : Nat) : Int)) ∧ Below w.heap.size w w' := by
  have HX := Lib.hid hx
  clear hx
  go_enter Tryd.func18, Tryd.ntmps18
  go_wp2
  refine wp_loop_rounds 5 ?_
  rw [rounds_succ]
  go_wp2_with (go_at_call 33; fail)
  rw [rounds_succ]
  go_wp2_with (go_at_call 33; fail)
  rw [rounds_succ]
  go_wp2_with (go_at_call 33; fail)
  rw [rounds_succ]
  go_wp2_with (go_at_call 33; refine (len64_k _ k _ HX.out hk).mono ?_; rintro e w' ⟨rfl, rfl⟩)
  go_ret
  refine ⟨congrArg (fun z => Ending.returned (.int .i64 z)) ?_, (Below.refl _ _).alloc (Nat.le_refl _) _⟩
  omega

theorem top_none (a b c d : Nat) (w : World) (z0 : ((a : Int) != 0) = false) (z1 : ((b : Int) != 0) = false) (z2 : ((c : Int) != 0) = false) (z3 : ((d : Int) != 0) = false) :
    Calls Tryd.prog 18 #[.agg #[.int .u64 a, .int .u64 b, .int .u64 c, .int .u64 d]] w fun e w' => e = .returned (.int .i64 (-1)) ∧ Below w.heap.size w w' := by
  go_enter Tryd.func18, Tryd.ntmps18
  go_wp2
  refine wp_loop_rounds 5 ?_
  rw [rounds_succ]
  go_wp2_with fail
  rw [rounds_succ]
  go_wp2_with fail
  rw [rounds_succ]
  go_wp2_with fail
  rw [rounds_succ]
  go_wp2_with fail
  rw [rounds_succ]
  go_wp2_with fail
  go_ret
  exact ⟨rfl, (Below.refl _ _).alloc (Nat.le_refl _) _⟩
end Go.Proofs.YtgddbmbljlngnaaDoor
