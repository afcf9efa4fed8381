/- The walk of corebellref.CStep: it answers what the plain pinStep says. -/
import Derived.Test.YtmldedkmmhnihaaProg
import Derived.WalkKit
import Derived.Below
import Derived.Test.YtmldedkmmhnihaaPinP
import Derived.Lib.Hide
namespace Go.Proofs.Ytmldedkmmhnihaa
open Go.RowKit

set_option maxHeartbeats 4000000 in
set_option maxRecDepth 100000 in
theorem cstep_1 (c v : Int) (l m u k s : Bool) (w : World) :
    Calls Try.prog 26 #[.agg #[.int .i64 c, .int .i64 v, .bool l, .bool m, .bool u, .bool k, .bool s], .int .i64 1] w fun e w' => e = .returned (.tuple #[.agg #[.int .i64 (pinStep ⟨c, v, l, m, u, k, s⟩ 1).1.core, .int .i64 (pinStep ⟨c, v, l, m, u, k, s⟩ 1).1.vec, .bool (pinStep ⟨c, v, l, m, u, k, s⟩ 1).1.level, .bool (pinStep ⟨c, v, l, m, u, k, s⟩ 1).1.masked, .bool (pinStep ⟨c, v, l, m, u, k, s⟩ 1).1.up, .bool (pinStep ⟨c, v, l, m, u, k, s⟩ 1).1.kept, .bool (pinStep ⟨c, v, l, m, u, k, s⟩ 1).1.sent], .bool (pinStep ⟨c, v, l, m, u, k, s⟩ 1).2]) ∧ Below w.heap.size w w' := by
  go_enter Try.func26, Try.ntmps26
  go_wp2
  all_goals refine bodyPost_ret (v := .tuple #[.agg #[.int .i64 (pinStep ⟨c, v, l, m, u, k, s⟩ 1).1.core, .int .i64 (pinStep ⟨c, v, l, m, u, k, s⟩ 1).1.vec, .bool (pinStep ⟨c, v, l, m, u, k, s⟩ 1).1.level, .bool (pinStep ⟨c, v, l, m, u, k, s⟩ 1).1.masked, .bool (pinStep ⟨c, v, l, m, u, k, s⟩ 1).1.up, .bool (pinStep ⟨c, v, l, m, u, k, s⟩ 1).1.kept, .bool (pinStep ⟨c, v, l, m, u, k, s⟩ 1).1.sent], .bool (pinStep ⟨c, v, l, m, u, k, s⟩ 1).2]) (by simp [results, Try.results26, go_sem, pinStep, PinT.move, PinT.settle, *]) rfl ⟨rfl, by repeat (first | (with_reducible exact Below.refl _ _) | ((with_reducible refine Below.setCell ?_ ?_ _); rotate_left; focus (first | (simp; done) | omega | (simp; omega))) | ((with_reducible refine Below.alloc ?_ ?_ _); rotate_left; focus (first | (simp; done) | omega | (simp; omega))))⟩
set_option maxHeartbeats 4000000 in
set_option maxRecDepth 100000 in
theorem cstep_2 (c v : Int) (l m u k s : Bool) (w : World) :
    Calls Try.prog 26 #[.agg #[.int .i64 c, .int .i64 v, .bool l, .bool m, .bool u, .bool k, .bool s], .int .i64 2] w fun e w' => e = .returned (.tuple #[.agg #[.int .i64 (pinStep ⟨c, v, l, m, u, k, s⟩ 2).1.core, .int .i64 (pinStep ⟨c, v, l, m, u, k, s⟩ 2).1.vec, .bool (pinStep ⟨c, v, l, m, u, k, s⟩ 2).1.level, .bool (pinStep ⟨c, v, l, m, u, k, s⟩ 2).1.masked, .bool (pinStep ⟨c, v, l, m, u, k, s⟩ 2).1.up, .bool (pinStep ⟨c, v, l, m, u, k, s⟩ 2).1.kept, .bool (pinStep ⟨c, v, l, m, u, k, s⟩ 2).1.sent], .bool (pinStep ⟨c, v, l, m, u, k, s⟩ 2).2]) ∧ Below w.heap.size w w' := by
  go_enter Try.func26, Try.ntmps26
  go_wp2
  all_goals refine bodyPost_ret (v := .tuple #[.agg #[.int .i64 (pinStep ⟨c, v, l, m, u, k, s⟩ 2).1.core, .int .i64 (pinStep ⟨c, v, l, m, u, k, s⟩ 2).1.vec, .bool (pinStep ⟨c, v, l, m, u, k, s⟩ 2).1.level, .bool (pinStep ⟨c, v, l, m, u, k, s⟩ 2).1.masked, .bool (pinStep ⟨c, v, l, m, u, k, s⟩ 2).1.up, .bool (pinStep ⟨c, v, l, m, u, k, s⟩ 2).1.kept, .bool (pinStep ⟨c, v, l, m, u, k, s⟩ 2).1.sent], .bool (pinStep ⟨c, v, l, m, u, k, s⟩ 2).2]) (by simp [results, Try.results26, go_sem, pinStep, PinT.move, PinT.settle, *]) rfl ⟨rfl, by repeat (first | (with_reducible exact Below.refl _ _) | ((with_reducible refine Below.setCell ?_ ?_ _); rotate_left; focus (first | (simp; done) | omega | (simp; omega))) | ((with_reducible refine Below.alloc ?_ ?_ _); rotate_left; focus (first | (simp; done) | omega | (simp; omega))))⟩
set_option maxHeartbeats 4000000 in
set_option maxRecDepth 100000 in
theorem cstep_3 (c v : Int) (l m u k s : Bool) (w : World) :
    Calls Try.prog 26 #[.agg #[.int .i64 c, .int .i64 v, .bool l, .bool m, .bool u, .bool k, .bool s], .int .i64 3] w fun e w' => e = .returned (.tuple #[.agg #[.int .i64 (pinStep ⟨c, v, l, m, u, k, s⟩ 3).1.core, .int .i64 (pinStep ⟨c, v, l, m, u, k, s⟩ 3).1.vec, .bool (pinStep ⟨c, v, l, m, u, k, s⟩ 3).1.level, .bool (pinStep ⟨c, v, l, m, u, k, s⟩ 3).1.masked, .bool (pinStep ⟨c, v, l, m, u, k, s⟩ 3).1.up, .bool (pinStep ⟨c, v, l, m, u, k, s⟩ 3).1.kept, .bool (pinStep ⟨c, v, l, m, u, k, s⟩ 3).1.sent], .bool (pinStep ⟨c, v, l, m, u, k, s⟩ 3).2]) ∧ Below w.heap.size w w' := by
  go_enter Try.func26, Try.ntmps26
  go_wp2
  all_goals refine bodyPost_ret (v := .tuple #[.agg #[.int .i64 (pinStep ⟨c, v, l, m, u, k, s⟩ 3).1.core, .int .i64 (pinStep ⟨c, v, l, m, u, k, s⟩ 3).1.vec, .bool (pinStep ⟨c, v, l, m, u, k, s⟩ 3).1.level, .bool (pinStep ⟨c, v, l, m, u, k, s⟩ 3).1.masked, .bool (pinStep ⟨c, v, l, m, u, k, s⟩ 3).1.up, .bool (pinStep ⟨c, v, l, m, u, k, s⟩ 3).1.kept, .bool (pinStep ⟨c, v, l, m, u, k, s⟩ 3).1.sent], .bool (pinStep ⟨c, v, l, m, u, k, s⟩ 3).2]) (by simp [results, Try.results26, go_sem, pinStep, PinT.move, PinT.settle, *]) rfl ⟨rfl, by repeat (first | (with_reducible exact Below.refl _ _) | ((with_reducible refine Below.setCell ?_ ?_ _); rotate_left; focus (first | (simp; done) | omega | (simp; omega))) | ((with_reducible refine Below.alloc ?_ ?_ _); rotate_left; focus (first | (simp; done) | omega | (simp; omega))))⟩
set_option maxHeartbeats 4000000 in
set_option maxRecDepth 100000 in
theorem cstep_4 (c v : Int) (l m u k s : Bool) (w : World) :
    Calls Try.prog 26 #[.agg #[.int .i64 c, .int .i64 v, .bool l, .bool m, .bool u, .bool k, .bool s], .int .i64 4] w fun e w' => e = .returned (.tuple #[.agg #[.int .i64 (pinStep ⟨c, v, l, m, u, k, s⟩ 4).1.core, .int .i64 (pinStep ⟨c, v, l, m, u, k, s⟩ 4).1.vec, .bool (pinStep ⟨c, v, l, m, u, k, s⟩ 4).1.level, .bool (pinStep ⟨c, v, l, m, u, k, s⟩ 4).1.masked, .bool (pinStep ⟨c, v, l, m, u, k, s⟩ 4).1.up, .bool (pinStep ⟨c, v, l, m, u, k, s⟩ 4).1.kept, .bool (pinStep ⟨c, v, l, m, u, k, s⟩ 4).1.sent], .bool (pinStep ⟨c, v, l, m, u, k, s⟩ 4).2]) ∧ Below w.heap.size w w' := by
  go_enter Try.func26, Try.ntmps26
  go_wp2
  all_goals refine bodyPost_ret (v := .tuple #[.agg #[.int .i64 (pinStep ⟨c, v, l, m, u, k, s⟩ 4).1.core, .int .i64 (pinStep ⟨c, v, l, m, u, k, s⟩ 4).1.vec, .bool (pinStep ⟨c, v, l, m, u, k, s⟩ 4).1.level, .bool (pinStep ⟨c, v, l, m, u, k, s⟩ 4).1.masked, .bool (pinStep ⟨c, v, l, m, u, k, s⟩ 4).1.up, .bool (pinStep ⟨c, v, l, m, u, k, s⟩ 4).1.kept, .bool (pinStep ⟨c, v, l, m, u, k, s⟩ 4).1.sent], .bool (pinStep ⟨c, v, l, m, u, k, s⟩ 4).2]) (by simp [results, Try.results26, go_sem, pinStep, PinT.move, PinT.settle, *]) rfl ⟨rfl, by repeat (first | (with_reducible exact Below.refl _ _) | ((with_reducible refine Below.setCell ?_ ?_ _); rotate_left; focus (first | (simp; done) | omega | (simp; omega))) | ((with_reducible refine Below.alloc ?_ ?_ _); rotate_left; focus (first | (simp; done) | omega | (simp; omega))))⟩
set_option maxHeartbeats 4000000 in
set_option maxRecDepth 100000 in
theorem cstep_5 (c v : Int) (l m u k s : Bool) (w : World) :
    Calls Try.prog 26 #[.agg #[.int .i64 c, .int .i64 v, .bool l, .bool m, .bool u, .bool k, .bool s], .int .i64 5] w fun e w' => e = .returned (.tuple #[.agg #[.int .i64 (pinStep ⟨c, v, l, m, u, k, s⟩ 5).1.core, .int .i64 (pinStep ⟨c, v, l, m, u, k, s⟩ 5).1.vec, .bool (pinStep ⟨c, v, l, m, u, k, s⟩ 5).1.level, .bool (pinStep ⟨c, v, l, m, u, k, s⟩ 5).1.masked, .bool (pinStep ⟨c, v, l, m, u, k, s⟩ 5).1.up, .bool (pinStep ⟨c, v, l, m, u, k, s⟩ 5).1.kept, .bool (pinStep ⟨c, v, l, m, u, k, s⟩ 5).1.sent], .bool (pinStep ⟨c, v, l, m, u, k, s⟩ 5).2]) ∧ Below w.heap.size w w' := by
  go_enter Try.func26, Try.ntmps26
  go_wp2
  all_goals refine bodyPost_ret (v := .tuple #[.agg #[.int .i64 (pinStep ⟨c, v, l, m, u, k, s⟩ 5).1.core, .int .i64 (pinStep ⟨c, v, l, m, u, k, s⟩ 5).1.vec, .bool (pinStep ⟨c, v, l, m, u, k, s⟩ 5).1.level, .bool (pinStep ⟨c, v, l, m, u, k, s⟩ 5).1.masked, .bool (pinStep ⟨c, v, l, m, u, k, s⟩ 5).1.up, .bool (pinStep ⟨c, v, l, m, u, k, s⟩ 5).1.kept, .bool (pinStep ⟨c, v, l, m, u, k, s⟩ 5).1.sent], .bool (pinStep ⟨c, v, l, m, u, k, s⟩ 5).2]) (by simp [results, Try.results26, go_sem, pinStep, PinT.move, PinT.settle, *]) rfl ⟨rfl, by repeat (first | (with_reducible exact Below.refl _ _) | ((with_reducible refine Below.setCell ?_ ?_ _); rotate_left; focus (first | (simp; done) | omega | (simp; omega))) | ((with_reducible refine Below.alloc ?_ ?_ _); rotate_left; focus (first | (simp; done) | omega | (simp; omega))))⟩
theorem cstep_R (p q : PinT) (K : Int) (t : Bool) (w : World) (h1 : 1 ≤ K) (h5 : K ≤ 5) (H : Hid (pinStep p K = (q, t))) :
    Calls Try.prog 26 #[.agg #[.int .i64 p.core, .int .i64 p.vec, .bool p.level, .bool p.masked, .bool p.up, .bool p.kept, .bool p.sent], .int .i64 K] w fun e w' => e = .returned (.tuple #[.agg #[.int .i64 q.core, .int .i64 q.vec, .bool q.level, .bool q.masked, .bool q.up, .bool q.kept, .bool q.sent], .bool t]) ∧ Below w.heap.size w w' := by
  have H' := H.out
  obtain ⟨c, v, l, m, u, k, s⟩ := p
  have hK : K = 1 ∨ K = 2 ∨ K = 3 ∨ K = 4 ∨ K = 5 := by omega
  rcases hK with rfl | rfl | rfl | rfl | rfl
  · have := cstep_1 c v l m u k s w
    rw [H'] at this
    exact this
  · have := cstep_2 c v l m u k s w
    rw [H'] at this
    exact this
  · have := cstep_3 c v l m u k s w
    rw [H'] at this
    exact this
  · have := cstep_4 c v l m u k s w
    rw [H'] at this
    exact this
  · have := cstep_5 c v l m u k s w
    rw [H'] at this
    exact this
end Go.Proofs.Ytmldedkmmhnihaa
