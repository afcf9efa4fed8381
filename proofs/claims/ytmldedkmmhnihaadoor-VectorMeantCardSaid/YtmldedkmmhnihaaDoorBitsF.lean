/- Walks: bits.Next, from a number in part 0. -/
import Derived.Test.YtmldedkmmhnihaaDoorBitsE
namespace Go.Proofs.YtmldedkmmhnihaaDoor
open Go.RowKit

theorem Tab.below {w w' : World} (h : Tab w) (hb : Below w.heap.size w w') : Tab w' := by
  intro j hj
  have hc := h j hj
  rw [hb.cell (block_lt_of_cell hc)]
  exact hc

/-- From 256 on there is none. -/
theorem next_out (a b c d : Nat) (f : Int) (w : World) (hf : 256 ≤ f) :
    Calls Tryd.prog 20 #[.agg #[.int .u64 a, .int .u64 b, .int .u64 c, .int .u64 d], .int .i64 f] w fun e w' => e = .returned (.int .i64 (-1)) ∧ Below w.heap.size w w' := by
  go_enter Tryd.func20, Tryd.ntmps20
  go_wp2_with fail
  go_ret
  exact ⟨rfl, (Below.refl _ _).alloc (Nat.le_refl _) _⟩

set_option maxRecDepth 100000 in
theorem next_0_0 (a b c d m f : Nat) (w : World) (hf : f < 256) (hq : (f : Int) / 64 = 0) (hm : Go.bits BinOp.andNot IntKind.u64 (a : Int) (IntKind.u64.wrap (2 ^ (f % 64) - 1)) = (m : Int)) (t : Nat) (hT : Hid (Tab w)) (hx : Hid (m < 2 ^ 64)) (hk : Hid (Lib.ctz 64 m = t)) (ht : t < 64) (nz : ((m : Int) != 0) = true)  :
    Calls Tryd.prog 20 #[.agg #[.int .u64 a, .int .u64 b, .int .u64 c, .int .u64 d], .int .i64 f] w fun e w' => e = .returned (.int .i64 ((0 + t : Nat) : Int)) ∧ Below w.heap.size w w' := by
  go_enter Tryd.func20, Tryd.ntmps20
  go_wp2_with fail
  go_region_with (go_at_call 23; refine (bit_any _ _ hf).mono ?_; rintro e w' ⟨rfl, rfl⟩)
  all_goals
    clear hm
    go_wp2_with fail
    refine wp_loop_rounds 5 ?_
    rw [rounds_succ]
    go_wp2_with (go_at_call 25; refine (tz64_k _ t _ hx.out (hT.out.below ((Below.refl _ _).alloc (Nat.le_refl _) _).drew) hk).mono ?_; rintro e w' ⟨rfl, rfl⟩)
    go_ret
    refine ⟨congrArg (fun z => Ending.returned (.int .i64 z)) ?_, ((Below.refl _ _).alloc (Nat.le_refl _) _).drew⟩
    omega

set_option maxRecDepth 100000 in
theorem next_0_1 (a b c d m f : Nat) (w : World) (hf : f < 256) (hq : (f : Int) / 64 = 0) (hm : Go.bits BinOp.andNot IntKind.u64 (a : Int) (IntKind.u64.wrap (2 ^ (f % 64) - 1)) = (m : Int)) (t : Nat) (hT : Hid (Tab w)) (hx : Hid (b < 2 ^ 64)) (hk : Hid (Lib.ctz 64 b = t)) (ht : t < 64) (nz : ((b : Int) != 0) = true) (z0 : ((m : Int) != 0) = false) :
    Calls Tryd.prog 20 #[.agg #[.int .u64 a, .int .u64 b, .int .u64 c, .int .u64 d], .int .i64 f] w fun e w' => e = .returned (.int .i64 ((64 + t : Nat) : Int)) ∧ Below w.heap.size w w' := by
  go_enter Tryd.func20, Tryd.ntmps20
  go_wp2_with fail
  go_region_with (go_at_call 23; refine (bit_any _ _ hf).mono ?_; rintro e w' ⟨rfl, rfl⟩)
  all_goals
    clear hm
    go_wp2_with fail
    refine wp_loop_rounds 5 ?_
    rw [rounds_succ]
    go_wp2_with fail
    rw [rounds_succ]
    go_wp2_with (go_at_call 25; refine (tz64_k _ t _ hx.out (hT.out.below ((Below.refl _ _).alloc (Nat.le_refl _) _).drew) hk).mono ?_; rintro e w' ⟨rfl, rfl⟩)
    go_ret
    refine ⟨congrArg (fun z => Ending.returned (.int .i64 z)) ?_, ((Below.refl _ _).alloc (Nat.le_refl _) _).drew⟩
    omega

set_option maxRecDepth 100000 in
theorem next_0_2 (a b c d m f : Nat) (w : World) (hf : f < 256) (hq : (f : Int) / 64 = 0) (hm : Go.bits BinOp.andNot IntKind.u64 (a : Int) (IntKind.u64.wrap (2 ^ (f % 64) - 1)) = (m : Int)) (t : Nat) (hT : Hid (Tab w)) (hx : Hid (c < 2 ^ 64)) (hk : Hid (Lib.ctz 64 c = t)) (ht : t < 64) (nz : ((c : Int) != 0) = true) (z0 : ((m : Int) != 0) = false) (z1 : ((b : Int) != 0) = false) :
    Calls Tryd.prog 20 #[.agg #[.int .u64 a, .int .u64 b, .int .u64 c, .int .u64 d], .int .i64 f] w fun e w' => e = .returned (.int .i64 ((128 + t : Nat) : Int)) ∧ Below w.heap.size w w' := by
  go_enter Tryd.func20, Tryd.ntmps20
  go_wp2_with fail
  go_region_with (go_at_call 23; refine (bit_any _ _ hf).mono ?_; rintro e w' ⟨rfl, rfl⟩)
  all_goals
    clear hm
    go_wp2_with fail
    refine wp_loop_rounds 5 ?_
    rw [rounds_succ]
    go_wp2_with fail
    rw [rounds_succ]
    go_wp2_with fail
    rw [rounds_succ]
    go_wp2_with (go_at_call 25; refine (tz64_k _ t _ hx.out (hT.out.below ((Below.refl _ _).alloc (Nat.le_refl _) _).drew) hk).mono ?_; rintro e w' ⟨rfl, rfl⟩)
    go_ret
    refine ⟨congrArg (fun z => Ending.returned (.int .i64 z)) ?_, ((Below.refl _ _).alloc (Nat.le_refl _) _).drew⟩
    omega

set_option maxRecDepth 100000 in
theorem next_0_3 (a b c d m f : Nat) (w : World) (hf : f < 256) (hq : (f : Int) / 64 = 0) (hm : Go.bits BinOp.andNot IntKind.u64 (a : Int) (IntKind.u64.wrap (2 ^ (f % 64) - 1)) = (m : Int)) (t : Nat) (hT : Hid (Tab w)) (hx : Hid (d < 2 ^ 64)) (hk : Hid (Lib.ctz 64 d = t)) (ht : t < 64) (nz : ((d : Int) != 0) = true) (z0 : ((m : Int) != 0) = false) (z1 : ((b : Int) != 0) = false) (z2 : ((c : Int) != 0) = false) :
    Calls Tryd.prog 20 #[.agg #[.int .u64 a, .int .u64 b, .int .u64 c, .int .u64 d], .int .i64 f] w fun e w' => e = .returned (.int .i64 ((192 + t : Nat) : Int)) ∧ Below w.heap.size w w' := by
  go_enter Tryd.func20, Tryd.ntmps20
  go_wp2_with fail
  go_region_with (go_at_call 23; refine (bit_any _ _ hf).mono ?_; rintro e w' ⟨rfl, rfl⟩)
  all_goals
    clear hm
    go_wp2_with fail
    refine wp_loop_rounds 5 ?_
    rw [rounds_succ]
    go_wp2_with fail
    rw [rounds_succ]
    go_wp2_with fail
    rw [rounds_succ]
    go_wp2_with fail
    rw [rounds_succ]
    go_wp2_with (go_at_call 25; refine (tz64_k _ t _ hx.out (hT.out.below ((Below.refl _ _).alloc (Nat.le_refl _) _).drew) hk).mono ?_; rintro e w' ⟨rfl, rfl⟩)
    go_ret
    refine ⟨congrArg (fun z => Ending.returned (.int .i64 z)) ?_, ((Below.refl _ _).alloc (Nat.le_refl _) _).drew⟩
    omega

set_option maxRecDepth 100000 in
theorem next_0_none (a b c d m f : Nat) (w : World) (hf : f < 256) (hq : (f : Int) / 64 = 0) (hm : Go.bits BinOp.andNot IntKind.u64 (a : Int) (IntKind.u64.wrap (2 ^ (f % 64) - 1)) = (m : Int)) (z0 : ((m : Int) != 0) = false) (z1 : ((b : Int) != 0) = false) (z2 : ((c : Int) != 0) = false) (z3 : ((d : Int) != 0) = false) :
    Calls Tryd.prog 20 #[.agg #[.int .u64 a, .int .u64 b, .int .u64 c, .int .u64 d], .int .i64 f] w fun e w' => e = .returned (.int .i64 (-1)) ∧ Below w.heap.size w w' := by
  go_enter Tryd.func20, Tryd.ntmps20
  go_wp2_with fail
  go_region_with (go_at_call 23; refine (bit_any _ _ hf).mono ?_; rintro e w' ⟨rfl, rfl⟩)
  all_goals
    clear hm
    go_wp2_with fail
    refine wp_loop_rounds 5 ?_
    rw [rounds_succ]
    go_wp2_with fail
    rw [rounds_succ]
    go_wp2_with fail
    rw [rounds_succ]
    go_wp2_with fail
    rw [rounds_succ]
    go_wp2_with fail
    rw [rounds_succ]
    go_wp2_with fail
    go_ret
    exact ⟨rfl, ((Below.refl _ _).alloc (Nat.le_refl _) _).drew⟩
end Go.Proofs.YtmldedkmmhnihaaDoor
