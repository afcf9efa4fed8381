/- The walk of corebellkeep.ApicOnce: it returns true at every input. -/
import Derived.Test.YtgddbmbljlngnaaDoorLocR
namespace Go.Proofs.YtgddbmbljlngnaaDoor
open Go.RowKit

theorem once_Z (a0 a1 a2 a3 s0 s1 s2 s3 : Nat) (c : Int) (k n x : Int) (w : World) (HO : Hid (St.Ok ⟨a0, a1, a2, a3, s0, s1, s2, s3, c⟩)) (hT : Tab w) (H : Hid (stepOf ⟨a0, a1, a2, a3, s0, s1, s2, s3, c⟩ k n = (St.zero, 0, x))) :
    Calls Tryd.prog 10 #[.agg #[.int .u64 a0, .int .u64 a1, .int .u64 a2, .int .u64 a3, .int .u64 s0, .int .u64 s1, .int .u64 s2, .int .u64 s3, .int .i64 c], .agg #[.int .i64 k, .int .i64 n]] w fun e w' => e = .returned (.tuple #[.agg #[.int .u64 0, .int .u64 0, .int .u64 0, .int .u64 0, .int .u64 0, .int .u64 0, .int .u64 0, .int .u64 0, .int .i64 0], .int .i64 0, .int .i64 x]) ∧ Below w.heap.size w w' :=
  step_Z ⟨a0, a1, a2, a3, s0, s1, s2, s3, c⟩ k n x w HO hT H
theorem once_0 (r : St) (k n v x : Int) (w : World) (hT : Tab w) (H : Hid (stepOf St.zero k n = (r, v, x))) :
    Calls Tryd.prog 10 #[.agg #[.int .u64 0, .int .u64 0, .int .u64 0, .int .u64 0, .int .u64 0, .int .u64 0, .int .u64 0, .int .u64 0, .int .i64 0], .agg #[.int .i64 k, .int .i64 n]] w fun e w' => e = .returned (.tuple #[.agg #[.int .u64 r.a0, .int .u64 r.a1, .int .u64 r.a2, .int .u64 r.a3, .int .u64 r.s0, .int .u64 r.s1, .int .u64 r.s2, .int .u64 r.s3, .int .i64 r.c], .int .i64 v, .int .i64 x]) ∧ Below w.heap.size w w' :=
  step_R St.zero r k n v x w St.zero_ok hT H
theorem once_R (a0 a1 a2 a3 s0 s1 s2 s3 : Nat) (c : Int) (b0 b1 b2 b3 : Nat) (k n v : Int) (w : World) (HO : Hid (St.Ok ⟨a0, a1, a2, a3, s0, s1, s2, s3, c⟩)) (hT : Tab w) (H : Hid (stepOf ⟨a0, a1, a2, a3, s0, s1, s2, s3, c⟩ k n = (⟨b0, b1, b2, b3, s0, s1, s2, s3, c⟩, v, 0))) :
    Calls Tryd.prog 10 #[.agg #[.int .u64 a0, .int .u64 a1, .int .u64 a2, .int .u64 a3, .int .u64 s0, .int .u64 s1, .int .u64 s2, .int .u64 s3, .int .i64 c], .agg #[.int .i64 k, .int .i64 n]] w fun e w' => e = .returned (.tuple #[.agg #[.int .u64 b0, .int .u64 b1, .int .u64 b2, .int .u64 b3, .int .u64 s0, .int .u64 s1, .int .u64 s2, .int .u64 s3, .int .i64 c], .int .i64 v, .int .i64 0]) ∧ Below w.heap.size w w' :=
  step_R ⟨a0, a1, a2, a3, s0, s1, s2, s3, c⟩ ⟨b0, b1, b2, b3, s0, s1, s2, s3, c⟩ k n v 0 w HO hT H
set_option maxHeartbeats 4000000 in
set_option maxRecDepth 100000 in
theorem once_e (a0 a1 a2 a3 s0 s1 s2 s3 : Nat) (c : Int) (r : St) (n x v y : Int) (w : World) (HO : Hid (St.Ok ⟨a0, a1, a2, a3, s0, s1, s2, s3, c⟩)) (HT : Hid (Tab w)) (H : Hid (stepOf ⟨a0, a1, a2, a3, s0, s1, s2, s3, c⟩ 1 n = (St.zero, 0, x))) (hx : (x != 0) = true) (H2 : Hid (stepOf St.zero 1 n = (r, v, y))) :
    Calls Tryd.prog 6 #[.agg #[.int .u64 a0, .int .u64 a1, .int .u64 a2, .int .u64 a3, .int .u64 s0, .int .u64 s1, .int .u64 s2, .int .u64 s3, .int .i64 c], .int .i64 n] w fun e w' => e = .returned (.bool true) ∧ Below w.heap.size w w' := by
  go_enter Tryd.func6, Tryd.ntmps6
  go_wp2_with fail
  with_reducible refine (alive2_T _ ?_).mono ?_
  focus (refine HT.out.below (show Below w.heap.size w _ from ?_); repeat (first | (with_reducible assumption) | (with_reducible exact Below.refl _ _) | ((with_reducible refine Below.setCell ?_ ?_ _); rotate_left; focus (first | (simp; done) | omega | (simp; omega))) | ((with_reducible refine Below.alloc ?_ ?_ _); rotate_left; focus (first | (simp; done) | omega | (simp; omega)))))
  rintro e w1 ⟨rfl, hb⟩
  have Z1_0 := bat hb (w.heap.size) (by first | omega | (simp; done) | (simp; omega))
  have ZL1_0 := Z1_0.2.2
  have BB1 := bstep (W := w) (by repeat (first | (with_reducible assumption) | (with_reducible exact Below.refl _ _) | ((with_reducible refine Below.setCell ?_ ?_ _); rotate_left; focus (first | (simp; done) | omega | (simp; omega))) | ((with_reducible refine Below.alloc ?_ ?_ _); rotate_left; focus (first | (simp; done) | omega | (simp; omega))))) hb
  have LL1 := BB1.size
  clear hb
  go_wp2_with fail
  with_reducible refine (once_Z a0 a1 a2 a3 s0 s1 s2 s3 c 1 n x _ HO ?_ H).mono ?_
  focus (refine HT.out.below (show Below w.heap.size w _ from ?_); repeat (first | (with_reducible assumption) | (with_reducible exact Below.refl _ _) | ((with_reducible refine Below.setCell ?_ ?_ _); rotate_left; focus (first | (simp; done) | omega | (simp; omega))) | ((with_reducible refine Below.alloc ?_ ?_ _); rotate_left; focus (first | (simp; done) | omega | (simp; omega)))))
  rintro e w2 ⟨rfl, hb⟩
  have Z2_0 := bat hb (w1.heap.size) (by first | omega | (simp; done) | (simp; omega))
  have ZL2_0 := Z2_0.2.2
  have BB2 := bstep (W := w) (by repeat (first | (with_reducible assumption) | (with_reducible exact Below.refl _ _) | ((with_reducible refine Below.setCell ?_ ?_ _); rotate_left; focus (first | (simp; done) | omega | (simp; omega))) | ((with_reducible refine Below.alloc ?_ ?_ _); rotate_left; focus (first | (simp; done) | omega | (simp; omega))))) hb
  have LL2 := BB2.size
  clear hb
  go_wp2_with fail
  with_reducible refine (once_0 r 1 n v y _ ?_ H2).mono ?_
  focus (refine HT.out.below (show Below w.heap.size w _ from ?_); repeat (first | (with_reducible assumption) | (with_reducible exact Below.refl _ _) | ((with_reducible refine Below.setCell ?_ ?_ _); rotate_left; focus (first | (simp; done) | omega | (simp; omega))) | ((with_reducible refine Below.alloc ?_ ?_ _); rotate_left; focus (first | (simp; done) | omega | (simp; omega)))))
  rintro e w3 ⟨rfl, hb⟩
  have BB3 := bstep (W := w) (by repeat (first | (with_reducible assumption) | (with_reducible exact Below.refl _ _) | ((with_reducible refine Below.setCell ?_ ?_ _); rotate_left; focus (first | (simp; done) | omega | (simp; omega))) | ((with_reducible refine Below.alloc ?_ ?_ _); rotate_left; focus (first | (simp; done) | omega | (simp; omega))))) hb
  have LL3 := BB3.size
  clear hb
  go_wp2_with fail
  go_ret
  exact ⟨rfl, by repeat (first | (with_reducible assumption) | (with_reducible exact Below.refl _ _) | ((with_reducible refine Below.setCell ?_ ?_ _); rotate_left; focus (first | (simp; done) | omega | (simp; omega))) | ((with_reducible refine Below.alloc ?_ ?_ _); rotate_left; focus (first | (simp; done) | omega | (simp; omega))))⟩
set_option maxHeartbeats 4000000 in
set_option maxRecDepth 100000 in
theorem once_k (a0 a1 a2 a3 s0 s1 s2 s3 : Nat) (c : Int) (b0 b1 b2 b3 : Nat) (n : Int) (w : World) (HO : Hid (St.Ok ⟨a0, a1, a2, a3, s0, s1, s2, s3, c⟩)) (HO2 : Hid (St.Ok ⟨b0, b1, b2, b3, s0, s1, s2, s3, c⟩)) (HB : Hid (Ok b0 b1 b2 b3)) (HT : Hid (Tab w)) (H : Hid (stepOf ⟨a0, a1, a2, a3, s0, s1, s2, s3, c⟩ 1 n = (⟨b0, b1, b2, b3, s0, s1, s2, s3, c⟩, -1, 0))) (H2 : Hid (stepOf ⟨b0, b1, b2, b3, s0, s1, s2, s3, c⟩ 1 n = (⟨b0, b1, b2, b3, s0, s1, s2, s3, c⟩, -1, 0))) (Hn : Hid (hasB b0 b1 b2 b3 n = true)) :
    Calls Tryd.prog 6 #[.agg #[.int .u64 a0, .int .u64 a1, .int .u64 a2, .int .u64 a3, .int .u64 s0, .int .u64 s1, .int .u64 s2, .int .u64 s3, .int .i64 c], .int .i64 n] w fun e w' => e = .returned (.bool true) ∧ Below w.heap.size w w' := by
  have heq : ∀ (x0 x1 x2 x3 x4 x5 x6 x7 x8 : Int) (w : World), (Op.equalIn 10000 26 (.agg #[.int .u64 x0, .int .u64 x1, .int .u64 x2, .int .u64 x3, .int .u64 x4, .int .u64 x5, .int .u64 x6, .int .u64 x7, .int .i64 x8]) (.agg #[.int .u64 x0, .int .u64 x1, .int .u64 x2, .int .u64 x3, .int .u64 x4, .int .u64 x5, .int .u64 x6, .int .u64 x7, .int .i64 x8])).run Tryd.prog w = .ok true w := eq_local
  have heqb : ∀ (x0 x1 x2 x3 y0 y1 y2 y3 : Int) (w : World), (Op.equalIn 10000 24 (.agg #[.int .u64 x0, .int .u64 x1, .int .u64 x2, .int .u64 x3]) (.agg #[.int .u64 y0, .int .u64 y1, .int .u64 y2, .int .u64 y3])).run Tryd.prog w = .ok (x0 == y0 && (x1 == y1 && (x2 == y2 && x3 == y3))) w := eq_bits
  go_enter Tryd.func6, Tryd.ntmps6
  go_wp2_with fail
  with_reducible refine (alive2_T _ ?_).mono ?_
  focus (refine HT.out.below (show Below w.heap.size w _ from ?_); repeat (first | (with_reducible assumption) | (with_reducible exact Below.refl _ _) | ((with_reducible refine Below.setCell ?_ ?_ _); rotate_left; focus (first | (simp; done) | omega | (simp; omega))) | ((with_reducible refine Below.alloc ?_ ?_ _); rotate_left; focus (first | (simp; done) | omega | (simp; omega)))))
  rintro e w1 ⟨rfl, hb⟩
  have Z1_0 := bat hb (w.heap.size) (by first | omega | (simp; done) | (simp; omega))
  have ZL1_0 := Z1_0.2.2
  have BB1 := bstep (W := w) (by repeat (first | (with_reducible assumption) | (with_reducible exact Below.refl _ _) | ((with_reducible refine Below.setCell ?_ ?_ _); rotate_left; focus (first | (simp; done) | omega | (simp; omega))) | ((with_reducible refine Below.alloc ?_ ?_ _); rotate_left; focus (first | (simp; done) | omega | (simp; omega))))) hb
  have LL1 := BB1.size
  clear hb
  go_wp2_with fail
  with_reducible refine (once_R a0 a1 a2 a3 s0 s1 s2 s3 c b0 b1 b2 b3 1 n (-1) _ HO ?_ H).mono ?_
  focus (refine HT.out.below (show Below w.heap.size w _ from ?_); repeat (first | (with_reducible assumption) | (with_reducible exact Below.refl _ _) | ((with_reducible refine Below.setCell ?_ ?_ _); rotate_left; focus (first | (simp; done) | omega | (simp; omega))) | ((with_reducible refine Below.alloc ?_ ?_ _); rotate_left; focus (first | (simp; done) | omega | (simp; omega)))))
  rintro e w2 ⟨rfl, hb⟩
  have Z2_0 := bat hb (w.heap.size) (by first | omega | (simp; done) | (simp; omega))
  have ZL2_0 := Z2_0.2.2
  have Z2_1 := bat hb (w1.heap.size) (by first | omega | (simp; done) | (simp; omega))
  have ZL2_1 := Z2_1.2.2
  have BB2 := bstep (W := w) (by repeat (first | (with_reducible assumption) | (with_reducible exact Below.refl _ _) | ((with_reducible refine Below.setCell ?_ ?_ _); rotate_left; focus (first | (simp; done) | omega | (simp; omega))) | ((with_reducible refine Below.alloc ?_ ?_ _); rotate_left; focus (first | (simp; done) | omega | (simp; omega))))) hb
  have LL2 := BB2.size
  clear hb
  go_wp2_with fail
  with_reducible refine (once_R b0 b1 b2 b3 s0 s1 s2 s3 c b0 b1 b2 b3 1 n (-1) _ HO2 ?_ H2).mono ?_
  focus (refine HT.out.below (show Below w.heap.size w _ from ?_); repeat (first | (with_reducible assumption) | (with_reducible exact Below.refl _ _) | ((with_reducible refine Below.setCell ?_ ?_ _); rotate_left; focus (first | (simp; done) | omega | (simp; omega))) | ((with_reducible refine Below.alloc ?_ ?_ _); rotate_left; focus (first | (simp; done) | omega | (simp; omega)))))
  rintro e w3 ⟨rfl, hb⟩
  have Z3_0 := bat hb (w.heap.size) (by first | omega | (simp; done) | (simp; omega))
  have ZL3_0 := Z3_0.2.2
  have Z3_1 := bat hb (w2.heap.size) (by first | omega | (simp; done) | (simp; omega))
  have ZL3_1 := Z3_1.2.2
  have BB3 := bstep (W := w) (by repeat (first | (with_reducible assumption) | (with_reducible exact Below.refl _ _) | ((with_reducible refine Below.setCell ?_ ?_ _); rotate_left; focus (first | (simp; done) | omega | (simp; omega))) | ((with_reducible refine Below.alloc ?_ ?_ _); rotate_left; focus (first | (simp; done) | omega | (simp; omega))))) hb
  have LL3 := BB3.size
  clear hb
  go_wp2_with fail
  with_reducible refine (has_R b0 b1 b2 b3 n true _ HB Hn).mono ?_
  rintro e w4 ⟨rfl, hb⟩
  have Z4_0 := bat hb (w.heap.size) (by first | omega | (simp; done) | (simp; omega))
  have ZL4_0 := Z4_0.2.2
  have Z4_1 := bat hb (w2.heap.size) (by first | omega | (simp; done) | (simp; omega))
  have ZL4_1 := Z4_1.2.2
  have BB4 := bstep (W := w) (by repeat (first | (with_reducible assumption) | (with_reducible exact Below.refl _ _) | ((with_reducible refine Below.setCell ?_ ?_ _); rotate_left; focus (first | (simp; done) | omega | (simp; omega))) | ((with_reducible refine Below.alloc ?_ ?_ _); rotate_left; focus (first | (simp; done) | omega | (simp; omega))))) hb
  have LL4 := BB4.size
  clear hb
  go_wp2_with fail
  go_ret
  exact ⟨rfl, by repeat (first | (with_reducible assumption) | (with_reducible exact Below.refl _ _) | ((with_reducible refine Below.setCell ?_ ?_ _); rotate_left; focus (first | (simp; done) | omega | (simp; omega))) | ((with_reducible refine Below.alloc ?_ ?_ _); rotate_left; focus (first | (simp; done) | omega | (simp; omega))))⟩
theorem up_twice (k n x : Nat) (hx : x < 2 ^ 64) : up k n (up k n x) = up k n x := by
  apply word_ext (up_lt (up_lt hx)) (up_lt hx)
  intro j hj
  rw [test_up _ _ _ _ hj, test_up _ _ _ _ hj]
  cases x.testBit j <;> cases decide (64 * k + j = n) <;> rfl
theorem apicOnce_walk (s : St) (n : Int) (w : World) (h : s.Ok) (hT : Tab w) :
    Calls Tryd.prog 6 #[.agg #[.int .u64 s.a0, .int .u64 s.a1, .int .u64 s.a2, .int .u64 s.a3, .int .u64 s.s0, .int .u64 s.s1, .int .u64 s.s2, .int .u64 s.s3, .int .i64 s.c], .int .i64 n] w fun e w' => e = .returned (.bool true) ∧ Below w.heap.size w w' := by
  rcases step_split s 1 n with ⟨x, hx, H⟩ | ⟨r, v, H⟩
  · rcases hz : stepOf St.zero 1 n with ⟨r, v, y⟩
    exact once_e s.a0 s.a1 s.a2 s.a3 s.s0 s.s1 s.s2 s.s3 s.c r n x v y w h hT H (by simpa using hx) hz
  · have H0 := H
    obtain ⟨hr, h1⟩ := step_inv H
    have hr' := step_right H
    rcases h1 with ⟨_, h1, h2, rfl, rfl⟩ | ⟨h1, _⟩ | ⟨h1, _⟩ | ⟨h1, _⟩
    · have hk : s.Ok ∧ (s.ask n.toNat).Ok := ⟨h, step_ok' h H⟩
      have e : (s.ask n.toNat).ask n.toNat = s.ask n.toNat := by
        unfold St.ask
        simp only [St.mk.injEq, and_true]
        exact ⟨up_twice _ _ _ h.1.1, up_twice _ _ _ h.1.2.1, up_twice _ _ _ h.1.2.2.1, up_twice _ _ _ h.1.2.2.2⟩
      have H2 : stepOf (s.ask n.toNat) 1 n = (s.ask n.toNat, -1, 0) := by
        unfold stepOf
        rw [if_neg (by rw [hr']; decide), if_pos rfl, if_neg (by omega), e]
      have hn : hasB (up 0 n.toNat s.a0) (up 1 n.toNat s.a1) (up 2 n.toNat s.a2) (up 3 n.toNat s.a3) n = true := by
        rw [hasB_up (by omega) h2]
        simp
      exact once_k s.a0 s.a1 s.a2 s.a3 s.s0 s.s1 s.s2 s.s3 s.c _ _ _ _ n w h hk.2 hk.2.1 hT H0 H2 hn
    · omega
    · omega
    · omega
end Go.Proofs.YtgddbmbljlngnaaDoor
