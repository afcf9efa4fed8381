/- Walks: bits.Next from a negative number: it is the first member. The contract of bits.Next at every integer. -/
import Derived.Test.YtgddbmbljlngnaaDoorBitsI
namespace Go.Proofs.YtgddbmbljlngnaaDoor
open Go.RowKit
theorem bit0 (w : World) : Calls Tryd.prog 35 #[.int .i64 0] w fun e w' => e = .returned (.int .u64 1) ∧ w = w' := bit_any 0 w (by decide)

set_option maxRecDepth 100000 in
theorem next_neg_0 (a b c d : Nat) (f : Int) (w : World) (hf : f < 0) (hm : Go.bits BinOp.andNot IntKind.u64 (a : Int) (IntKind.u64.wrap 0) = (a : Int)) (t : Nat) (hT : Hid (Tab w)) (hx : Hid (a < 2 ^ 64)) (hk : Hid (Lib.ctz 64 a = t)) (ht : t < 64) (nz : ((a : Int) != 0) = true)  :
    Calls Tryd.prog 32 #[.agg #[.int .u64 a, .int .u64 b, .int .u64 c, .int .u64 d], .int .i64 f] w fun e w' => e = .returned (.int .i64 ((0 + t : Nat) : Int)) ∧ Below w.heap.size w w' := by
  have hmx : max f 0 = 0 := by omega
  go_enter Tryd.func32, Tryd.ntmps32
  go_wp2_with fail
  go_region_with (go_at_call 35; refine (bit0 _).mono ?_; rintro e w' ⟨rfl, rfl⟩)
  all_goals
    clear hm hmx
    go_wp2_with fail
    refine wp_loop_rounds 5 ?_
    rw [rounds_succ]
    go_wp2_with (go_at_call 40; refine (tz64_k _ t _ hx.out (hT.out.below ((Below.refl _ _).alloc (Nat.le_refl _) _).drew) hk).mono ?_; rintro e w' ⟨rfl, rfl⟩)
    go_ret
    refine ⟨congrArg (fun z => Ending.returned (.int .i64 z)) ?_, ((Below.refl _ _).alloc (Nat.le_refl _) _).drew⟩
    omega

set_option maxRecDepth 100000 in
theorem next_neg_1 (a b c d : Nat) (f : Int) (w : World) (hf : f < 0) (hm : Go.bits BinOp.andNot IntKind.u64 (a : Int) (IntKind.u64.wrap 0) = (a : Int)) (t : Nat) (hT : Hid (Tab w)) (hx : Hid (b < 2 ^ 64)) (hk : Hid (Lib.ctz 64 b = t)) (ht : t < 64) (nz : ((b : Int) != 0) = true) (z0 : ((a : Int) != 0) = false) :
    Calls Tryd.prog 32 #[.agg #[.int .u64 a, .int .u64 b, .int .u64 c, .int .u64 d], .int .i64 f] w fun e w' => e = .returned (.int .i64 ((64 + t : Nat) : Int)) ∧ Below w.heap.size w w' := by
  have hmx : max f 0 = 0 := by omega
  go_enter Tryd.func32, Tryd.ntmps32
  go_wp2_with fail
  go_region_with (go_at_call 35; refine (bit0 _).mono ?_; rintro e w' ⟨rfl, rfl⟩)
  all_goals
    clear hm hmx
    go_wp2_with fail
    refine wp_loop_rounds 5 ?_
    rw [rounds_succ]
    go_wp2_with fail
    rw [rounds_succ]
    go_wp2_with (go_at_call 40; refine (tz64_k _ t _ hx.out (hT.out.below ((Below.refl _ _).alloc (Nat.le_refl _) _).drew) hk).mono ?_; rintro e w' ⟨rfl, rfl⟩)
    go_ret
    refine ⟨congrArg (fun z => Ending.returned (.int .i64 z)) ?_, ((Below.refl _ _).alloc (Nat.le_refl _) _).drew⟩
    omega

set_option maxRecDepth 100000 in
theorem next_neg_2 (a b c d : Nat) (f : Int) (w : World) (hf : f < 0) (hm : Go.bits BinOp.andNot IntKind.u64 (a : Int) (IntKind.u64.wrap 0) = (a : Int)) (t : Nat) (hT : Hid (Tab w)) (hx : Hid (c < 2 ^ 64)) (hk : Hid (Lib.ctz 64 c = t)) (ht : t < 64) (nz : ((c : Int) != 0) = true) (z0 : ((a : Int) != 0) = false) (z1 : ((b : Int) != 0) = false) :
    Calls Tryd.prog 32 #[.agg #[.int .u64 a, .int .u64 b, .int .u64 c, .int .u64 d], .int .i64 f] w fun e w' => e = .returned (.int .i64 ((128 + t : Nat) : Int)) ∧ Below w.heap.size w w' := by
  have hmx : max f 0 = 0 := by omega
  go_enter Tryd.func32, Tryd.ntmps32
  go_wp2_with fail
  go_region_with (go_at_call 35; refine (bit0 _).mono ?_; rintro e w' ⟨rfl, rfl⟩)
  all_goals
    clear hm hmx
    go_wp2_with fail
    refine wp_loop_rounds 5 ?_
    rw [rounds_succ]
    go_wp2_with fail
    rw [rounds_succ]
    go_wp2_with fail
    rw [rounds_succ]
    go_wp2_with (go_at_call 40; refine (tz64_k _ t _ hx.out (hT.out.below ((Below.refl _ _).alloc (Nat.le_refl _) _).drew) hk).mono ?_; rintro e w' ⟨rfl, rfl⟩)
    go_ret
    refine ⟨congrArg (fun z => Ending.returned (.int .i64 z)) ?_, ((Below.refl _ _).alloc (Nat.le_refl _) _).drew⟩
    omega

set_option maxRecDepth 100000 in
theorem next_neg_3 (a b c d : Nat) (f : Int) (w : World) (hf : f < 0) (hm : Go.bits BinOp.andNot IntKind.u64 (a : Int) (IntKind.u64.wrap 0) = (a : Int)) (t : Nat) (hT : Hid (Tab w)) (hx : Hid (d < 2 ^ 64)) (hk : Hid (Lib.ctz 64 d = t)) (ht : t < 64) (nz : ((d : Int) != 0) = true) (z0 : ((a : Int) != 0) = false) (z1 : ((b : Int) != 0) = false) (z2 : ((c : Int) != 0) = false) :
    Calls Tryd.prog 32 #[.agg #[.int .u64 a, .int .u64 b, .int .u64 c, .int .u64 d], .int .i64 f] w fun e w' => e = .returned (.int .i64 ((192 + t : Nat) : Int)) ∧ Below w.heap.size w w' := by
  have hmx : max f 0 = 0 := by omega
  go_enter Tryd.func32, Tryd.ntmps32
  go_wp2_with fail
  go_region_with (go_at_call 35; refine (bit0 _).mono ?_; rintro e w' ⟨rfl, rfl⟩)
  all_goals
    clear hm hmx
    go_wp2_with fail
    refine wp_loop_rounds 5 ?_
    rw [rounds_succ]
    go_wp2_with fail
    rw [rounds_succ]
    go_wp2_with fail
    rw [rounds_succ]
    go_wp2_with fail
    rw [rounds_succ]
    go_wp2_with (go_at_call 40; refine (tz64_k _ t _ hx.out (hT.out.below ((Below.refl _ _).alloc (Nat.le_refl _) _).drew) hk).mono ?_; rintro e w' ⟨rfl, rfl⟩)
    go_ret
    refine ⟨congrArg (fun z => Ending.returned (.int .i64 z)) ?_, ((Below.refl _ _).alloc (Nat.le_refl _) _).drew⟩
    omega

set_option maxRecDepth 100000 in
theorem next_neg_none (a b c d : Nat) (f : Int) (w : World) (hf : f < 0) (hm : Go.bits BinOp.andNot IntKind.u64 (a : Int) (IntKind.u64.wrap 0) = (a : Int)) (z0 : ((a : Int) != 0) = false) (z1 : ((b : Int) != 0) = false) (z2 : ((c : Int) != 0) = false) (z3 : ((d : Int) != 0) = false) :
    Calls Tryd.prog 32 #[.agg #[.int .u64 a, .int .u64 b, .int .u64 c, .int .u64 d], .int .i64 f] w fun e w' => e = .returned (.int .i64 (-1)) ∧ Below w.heap.size w w' := by
  have hmx : max f 0 = 0 := by omega
  go_enter Tryd.func32, Tryd.ntmps32
  go_wp2_with fail
  go_region_with (go_at_call 35; refine (bit0 _).mono ?_; rintro e w' ⟨rfl, rfl⟩)
  all_goals
    clear hm hmx
    go_wp2_with fail
    refine wp_loop_rounds 5 ?_
    rw [rounds_succ]
    go_wp2_with fail
    rw [rounds_succ]
    go_wp2_with fail
    rw [rounds_succ]
    go_wp2_with fail
    rw [rounds_succ]
    go_wp2_with fail
    rw [rounds_succ]
    go_wp2_with fail
    go_ret
    exact ⟨rfl, ((Below.refl _ _).alloc (Nat.le_refl _) _).drew⟩

theorem mask_zero (x : Nat) (hx : x < 2 ^ 64) : Go.bits BinOp.andNot IntKind.u64 (x : Int) (IntKind.u64.wrap 0) = (x : Int) := by
  have e : IntKind.u64.wrap 0 = ((0 : Nat) : Int) := by decide
  rw [e, andNot_nat hx (by decide)]
  congr 1
  apply word_ext (and_lt _ hx) hx
  intro j hj
  rw [Nat.testBit_and, Nat.testBit_two_pow_sub_succ (by decide)]
  simp [hj]
theorem nextOf_neg (p : Nat → Bool) (f : Int) (h : f < 0) : nextOf p f = nextOf p 0 := by
  rcases nextOf_cases p 0 with ⟨e, ha⟩ | ⟨n, e, h1, h2, h3, h4⟩
  · rw [e]
    exact nextOf_none fun m hm _ => ha m hm (by omega)
  · rw [e]
    exact nextOf_some h1 h2 (by omega) (fun m hm _ => h4 m hm (by omega))

/-- bits.Next, for every set and every integer. -/
theorem next_every (a b c d : Nat) (f r : Int) (w : World) (ho : Hid (Ok a b c d)) (hT : Tab w) (hr : Hid (nextOf (mem a b c d) f = r)) :
    Calls Tryd.prog 32 #[.agg #[.int .u64 a, .int .u64 b, .int .u64 c, .int .u64 d], .int .i64 f] w fun e w' => e = .returned (.int .i64 r) ∧ Below w.heap.size w w' := by
  have h := ho.out
  rw [← hr.out]
  by_cases h0 : 0 ≤ f
  · exact next_int a b c d f w h hT h0
  have hf : f < 0 := by omega
  rw [nextOf_neg _ f hf]
  have hmt : ∀ i, i < 64 → a.testBit i = ((word a b c d 0).testBit i && decide (0 % 64 ≤ i)) := fun i _ => by simp [word]
  by_cases z0 : a = 0
  case neg =>
    obtain ⟨q1, q2, q3⟩ := ctz_spec a z0 h.1
    have e := next_gen (a := a) (b := b) (c := c) (d := d) (f := 0) (k := 0) (m := a) (j := 0) (t := Lib.ctz 64 a) rfl hmt (by decide) (by decide) (fun i h1 h2 => by omega) q1 (by simpa [scanned, word] using q2) (by simpa [scanned, word] using q3)
    rw [show nextOf (mem a b c d) 0 = _ from e]
    exact next_neg_0 a b c d f w hf (mask_zero a h.1) (Lib.ctz 64 a) hT h.1 rfl q1 (ne_true z0) 
  by_cases z1 : b = 0
  case neg =>
    obtain ⟨q1, q2, q3⟩ := ctz_spec b z1 h.2.1
    have e := next_gen (a := a) (b := b) (c := c) (d := d) (f := 0) (k := 0) (m := a) (j := 1) (t := Lib.ctz 64 b) rfl hmt (by decide) (by decide) (fun i h1 h2 => by (have h3 : i = 0 := by omega); rcases h3 with rfl <;> simp [scanned, *]) q1 (by simpa [scanned, word] using q2) (by simpa [scanned, word] using q3)
    rw [show nextOf (mem a b c d) 0 = _ from e]
    exact next_neg_1 a b c d f w hf (mask_zero a h.1) (Lib.ctz 64 b) hT h.2.1 rfl q1 (ne_true z1) (ne_false z0)
  by_cases z2 : c = 0
  case neg =>
    obtain ⟨q1, q2, q3⟩ := ctz_spec c z2 h.2.2.1
    have e := next_gen (a := a) (b := b) (c := c) (d := d) (f := 0) (k := 0) (m := a) (j := 2) (t := Lib.ctz 64 c) rfl hmt (by decide) (by decide) (fun i h1 h2 => by (have h3 : i = 0 ∨ i = 1 := by omega); rcases h3 with rfl | rfl <;> simp [scanned, word, *]) q1 (by simpa [scanned, word] using q2) (by simpa [scanned, word] using q3)
    rw [show nextOf (mem a b c d) 0 = _ from e]
    exact next_neg_2 a b c d f w hf (mask_zero a h.1) (Lib.ctz 64 c) hT h.2.2.1 rfl q1 (ne_true z2) (ne_false z0) (ne_false z1)
  by_cases z3 : d = 0
  case neg =>
    obtain ⟨q1, q2, q3⟩ := ctz_spec d z3 h.2.2.2
    have e := next_gen (a := a) (b := b) (c := c) (d := d) (f := 0) (k := 0) (m := a) (j := 3) (t := Lib.ctz 64 d) rfl hmt (by decide) (by decide) (fun i h1 h2 => by (have h3 : i = 0 ∨ i = 1 ∨ i = 2 := by omega); rcases h3 with rfl | rfl | rfl <;> simp [scanned, word, *]) q1 (by simpa [scanned, word] using q2) (by simpa [scanned, word] using q3)
    rw [show nextOf (mem a b c d) 0 = _ from e]
    exact next_neg_3 a b c d f w hf (mask_zero a h.1) (Lib.ctz 64 d) hT h.2.2.2 rfl q1 (ne_true z3) (ne_false z0) (ne_false z1) (ne_false z2)
  have e := next_gen_none (a := a) (b := b) (c := c) (d := d) (f := 0) (k := 0) (m := a) rfl hmt (fun i h1 h2 => by
    have h3 : i = 0 ∨ i = 1 ∨ i = 2 ∨ i = 3 := by omega
    rcases h3 with rfl | rfl | rfl | rfl <;> simp [scanned, word, *])
  rw [show nextOf (mem a b c d) 0 = _ from e]
  exact next_neg_none a b c d f w hf (mask_zero a h.1) (ne_false z0) (ne_false z1) (ne_false z2) (ne_false z3)
end Go.Proofs.YtgddbmbljlngnaaDoor
