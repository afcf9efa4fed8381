/- The walks of line.inRange, consistent, check, change, sendLevel, sendEdge. -/
import Derived.Test.YtmldedkmmhnihaaPinD
import Derived.Test.YtmldedkmmhnihaaLinP
namespace Go.Proofs.Ytmldedkmmhnihaa
open Go.RowKit

set_option maxHeartbeats 4000000 in
set_option maxRecDepth 100000 in
theorem inRange_0 (c v : Int) (l m u k s : Bool) (w : World) :
    Calls Try.prog 27 #[.agg #[.int .i64 c, .int .i64 v, .bool l, .bool m, .bool u, .bool k, .bool s]] w fun e w' => e = .returned (.bool (PinT.inr ⟨c, v, l, m, u, k, s⟩)) ∧ Below w.heap.size w w' := by
  go_enter Try.func27, Try.ntmps27
  go_wp2
  all_goals refine bodyPost_ret (v := .bool (PinT.inr ⟨c, v, l, m, u, k, s⟩)) (by first | (simp [results, Try.results27, go_sem, PinT.inr, *]; done) | (simp [results, Try.results27, go_sem, PinT.inr, *]; omega)) rfl ⟨rfl, by repeat (first | (with_reducible exact Below.refl _ _) | ((with_reducible refine Below.setCell ?_ ?_ _); rotate_left; focus (first | (simp; done) | omega | (simp; omega))) | ((with_reducible refine Below.alloc ?_ ?_ _); rotate_left; focus (first | (simp; done) | omega | (simp; omega))))⟩
set_option maxHeartbeats 4000000 in
set_option maxRecDepth 100000 in
theorem consistent_0 (c v : Int) (l m u k s : Bool) (w : World) :
    Calls Try.prog 28 #[.agg #[.int .i64 c, .int .i64 v, .bool l, .bool m, .bool u, .bool k, .bool s]] w fun e w' => e = .returned (.bool (PinT.cons ⟨c, v, l, m, u, k, s⟩)) ∧ Below w.heap.size w w' := by
  go_enter Try.func28, Try.ntmps28
  go_wp2
  all_goals refine bodyPost_ret (v := .bool (PinT.cons ⟨c, v, l, m, u, k, s⟩)) (by first | (simp [results, Try.results28, go_sem, PinT.cons, *]; done) | (simp [results, Try.results28, go_sem, PinT.cons, *]; omega)) rfl ⟨rfl, by repeat (first | (with_reducible exact Below.refl _ _) | ((with_reducible refine Below.setCell ?_ ?_ _); rotate_left; focus (first | (simp; done) | omega | (simp; omega))) | ((with_reducible refine Below.alloc ?_ ?_ _); rotate_left; focus (first | (simp; done) | omega | (simp; omega))))⟩
theorem inRange_R (p : PinT) (w : World) : Calls Try.prog 27 #[.agg #[.int .i64 p.core, .int .i64 p.vec, .bool p.level, .bool p.masked, .bool p.up, .bool p.kept, .bool p.sent]] w fun e w' => e = .returned (.bool p.inr) ∧ Below w.heap.size w w' := by
  obtain ⟨c, v, l, m, u, k, s⟩ := p
  exact inRange_0 c v l m u k s w
theorem consistent_R (p : PinT) (w : World) : Calls Try.prog 28 #[.agg #[.int .i64 p.core, .int .i64 p.vec, .bool p.level, .bool p.masked, .bool p.up, .bool p.kept, .bool p.sent]] w fun e w' => e = .returned (.bool p.cons) ∧ Below w.heap.size w w' := by
  obtain ⟨c, v, l, m, u, k, s⟩ := p
  exact consistent_0 c v l m u k s w
set_option maxHeartbeats 4000000 in
set_option maxRecDepth 100000 in
theorem change_1 (c v : Int) (l m u k s : Bool) (w : World) :
    Calls Try.prog 39 #[.agg #[.int .i64 c, .int .i64 v, .bool l, .bool m, .bool u, .bool k, .bool s], .int .i64 1] w fun e w' => e = .returned (.tuple #[.agg #[.int .i64 (PinT.move ⟨c, v, l, m, u, k, s⟩ 1).core, .int .i64 (PinT.move ⟨c, v, l, m, u, k, s⟩ 1).vec, .bool (PinT.move ⟨c, v, l, m, u, k, s⟩ 1).level, .bool (PinT.move ⟨c, v, l, m, u, k, s⟩ 1).masked, .bool (PinT.move ⟨c, v, l, m, u, k, s⟩ 1).up, .bool (PinT.move ⟨c, v, l, m, u, k, s⟩ 1).kept, .bool (PinT.move ⟨c, v, l, m, u, k, s⟩ 1).sent], .bool (PinT.rose ⟨c, v, l, m, u, k, s⟩ 1)]) ∧ Below w.heap.size w w' := by
  go_enter Try.func39, Try.ntmps39
  go_wp2
  all_goals refine bodyPost_ret (v := .tuple #[.agg #[.int .i64 (PinT.move ⟨c, v, l, m, u, k, s⟩ 1).core, .int .i64 (PinT.move ⟨c, v, l, m, u, k, s⟩ 1).vec, .bool (PinT.move ⟨c, v, l, m, u, k, s⟩ 1).level, .bool (PinT.move ⟨c, v, l, m, u, k, s⟩ 1).masked, .bool (PinT.move ⟨c, v, l, m, u, k, s⟩ 1).up, .bool (PinT.move ⟨c, v, l, m, u, k, s⟩ 1).kept, .bool (PinT.move ⟨c, v, l, m, u, k, s⟩ 1).sent], .bool (PinT.rose ⟨c, v, l, m, u, k, s⟩ 1)]) (by simp [results, Try.results39, go_sem, PinT.move, PinT.rose, *]) rfl ⟨rfl, by repeat (first | (with_reducible exact Below.refl _ _) | ((with_reducible refine Below.setCell ?_ ?_ _); rotate_left; focus (first | (simp; done) | omega | (simp; omega))) | ((with_reducible refine Below.alloc ?_ ?_ _); rotate_left; focus (first | (simp; done) | omega | (simp; omega))))⟩
set_option maxHeartbeats 4000000 in
set_option maxRecDepth 100000 in
theorem change_2 (c v : Int) (l m u k s : Bool) (w : World) :
    Calls Try.prog 39 #[.agg #[.int .i64 c, .int .i64 v, .bool l, .bool m, .bool u, .bool k, .bool s], .int .i64 2] w fun e w' => e = .returned (.tuple #[.agg #[.int .i64 (PinT.move ⟨c, v, l, m, u, k, s⟩ 2).core, .int .i64 (PinT.move ⟨c, v, l, m, u, k, s⟩ 2).vec, .bool (PinT.move ⟨c, v, l, m, u, k, s⟩ 2).level, .bool (PinT.move ⟨c, v, l, m, u, k, s⟩ 2).masked, .bool (PinT.move ⟨c, v, l, m, u, k, s⟩ 2).up, .bool (PinT.move ⟨c, v, l, m, u, k, s⟩ 2).kept, .bool (PinT.move ⟨c, v, l, m, u, k, s⟩ 2).sent], .bool (PinT.rose ⟨c, v, l, m, u, k, s⟩ 2)]) ∧ Below w.heap.size w w' := by
  go_enter Try.func39, Try.ntmps39
  go_wp2
  all_goals refine bodyPost_ret (v := .tuple #[.agg #[.int .i64 (PinT.move ⟨c, v, l, m, u, k, s⟩ 2).core, .int .i64 (PinT.move ⟨c, v, l, m, u, k, s⟩ 2).vec, .bool (PinT.move ⟨c, v, l, m, u, k, s⟩ 2).level, .bool (PinT.move ⟨c, v, l, m, u, k, s⟩ 2).masked, .bool (PinT.move ⟨c, v, l, m, u, k, s⟩ 2).up, .bool (PinT.move ⟨c, v, l, m, u, k, s⟩ 2).kept, .bool (PinT.move ⟨c, v, l, m, u, k, s⟩ 2).sent], .bool (PinT.rose ⟨c, v, l, m, u, k, s⟩ 2)]) (by simp [results, Try.results39, go_sem, PinT.move, PinT.rose, *]) rfl ⟨rfl, by repeat (first | (with_reducible exact Below.refl _ _) | ((with_reducible refine Below.setCell ?_ ?_ _); rotate_left; focus (first | (simp; done) | omega | (simp; omega))) | ((with_reducible refine Below.alloc ?_ ?_ _); rotate_left; focus (first | (simp; done) | omega | (simp; omega))))⟩
set_option maxHeartbeats 4000000 in
set_option maxRecDepth 100000 in
theorem change_3 (c v : Int) (l m u k s : Bool) (w : World) :
    Calls Try.prog 39 #[.agg #[.int .i64 c, .int .i64 v, .bool l, .bool m, .bool u, .bool k, .bool s], .int .i64 3] w fun e w' => e = .returned (.tuple #[.agg #[.int .i64 (PinT.move ⟨c, v, l, m, u, k, s⟩ 3).core, .int .i64 (PinT.move ⟨c, v, l, m, u, k, s⟩ 3).vec, .bool (PinT.move ⟨c, v, l, m, u, k, s⟩ 3).level, .bool (PinT.move ⟨c, v, l, m, u, k, s⟩ 3).masked, .bool (PinT.move ⟨c, v, l, m, u, k, s⟩ 3).up, .bool (PinT.move ⟨c, v, l, m, u, k, s⟩ 3).kept, .bool (PinT.move ⟨c, v, l, m, u, k, s⟩ 3).sent], .bool (PinT.rose ⟨c, v, l, m, u, k, s⟩ 3)]) ∧ Below w.heap.size w w' := by
  go_enter Try.func39, Try.ntmps39
  go_wp2
  all_goals refine bodyPost_ret (v := .tuple #[.agg #[.int .i64 (PinT.move ⟨c, v, l, m, u, k, s⟩ 3).core, .int .i64 (PinT.move ⟨c, v, l, m, u, k, s⟩ 3).vec, .bool (PinT.move ⟨c, v, l, m, u, k, s⟩ 3).level, .bool (PinT.move ⟨c, v, l, m, u, k, s⟩ 3).masked, .bool (PinT.move ⟨c, v, l, m, u, k, s⟩ 3).up, .bool (PinT.move ⟨c, v, l, m, u, k, s⟩ 3).kept, .bool (PinT.move ⟨c, v, l, m, u, k, s⟩ 3).sent], .bool (PinT.rose ⟨c, v, l, m, u, k, s⟩ 3)]) (by simp [results, Try.results39, go_sem, PinT.move, PinT.rose, *]) rfl ⟨rfl, by repeat (first | (with_reducible exact Below.refl _ _) | ((with_reducible refine Below.setCell ?_ ?_ _); rotate_left; focus (first | (simp; done) | omega | (simp; omega))) | ((with_reducible refine Below.alloc ?_ ?_ _); rotate_left; focus (first | (simp; done) | omega | (simp; omega))))⟩
set_option maxHeartbeats 4000000 in
set_option maxRecDepth 100000 in
theorem change_4 (c v : Int) (l m u k s : Bool) (w : World) :
    Calls Try.prog 39 #[.agg #[.int .i64 c, .int .i64 v, .bool l, .bool m, .bool u, .bool k, .bool s], .int .i64 4] w fun e w' => e = .returned (.tuple #[.agg #[.int .i64 (PinT.move ⟨c, v, l, m, u, k, s⟩ 4).core, .int .i64 (PinT.move ⟨c, v, l, m, u, k, s⟩ 4).vec, .bool (PinT.move ⟨c, v, l, m, u, k, s⟩ 4).level, .bool (PinT.move ⟨c, v, l, m, u, k, s⟩ 4).masked, .bool (PinT.move ⟨c, v, l, m, u, k, s⟩ 4).up, .bool (PinT.move ⟨c, v, l, m, u, k, s⟩ 4).kept, .bool (PinT.move ⟨c, v, l, m, u, k, s⟩ 4).sent], .bool (PinT.rose ⟨c, v, l, m, u, k, s⟩ 4)]) ∧ Below w.heap.size w w' := by
  go_enter Try.func39, Try.ntmps39
  go_wp2
  all_goals refine bodyPost_ret (v := .tuple #[.agg #[.int .i64 (PinT.move ⟨c, v, l, m, u, k, s⟩ 4).core, .int .i64 (PinT.move ⟨c, v, l, m, u, k, s⟩ 4).vec, .bool (PinT.move ⟨c, v, l, m, u, k, s⟩ 4).level, .bool (PinT.move ⟨c, v, l, m, u, k, s⟩ 4).masked, .bool (PinT.move ⟨c, v, l, m, u, k, s⟩ 4).up, .bool (PinT.move ⟨c, v, l, m, u, k, s⟩ 4).kept, .bool (PinT.move ⟨c, v, l, m, u, k, s⟩ 4).sent], .bool (PinT.rose ⟨c, v, l, m, u, k, s⟩ 4)]) (by simp [results, Try.results39, go_sem, PinT.move, PinT.rose, *]) rfl ⟨rfl, by repeat (first | (with_reducible exact Below.refl _ _) | ((with_reducible refine Below.setCell ?_ ?_ _); rotate_left; focus (first | (simp; done) | omega | (simp; omega))) | ((with_reducible refine Below.alloc ?_ ?_ _); rotate_left; focus (first | (simp; done) | omega | (simp; omega))))⟩
set_option maxHeartbeats 4000000 in
set_option maxRecDepth 100000 in
theorem change_5 (c v : Int) (l m u k s : Bool) (w : World) :
    Calls Try.prog 39 #[.agg #[.int .i64 c, .int .i64 v, .bool l, .bool m, .bool u, .bool k, .bool s], .int .i64 5] w fun e w' => e = .returned (.tuple #[.agg #[.int .i64 (PinT.move ⟨c, v, l, m, u, k, s⟩ 5).core, .int .i64 (PinT.move ⟨c, v, l, m, u, k, s⟩ 5).vec, .bool (PinT.move ⟨c, v, l, m, u, k, s⟩ 5).level, .bool (PinT.move ⟨c, v, l, m, u, k, s⟩ 5).masked, .bool (PinT.move ⟨c, v, l, m, u, k, s⟩ 5).up, .bool (PinT.move ⟨c, v, l, m, u, k, s⟩ 5).kept, .bool (PinT.move ⟨c, v, l, m, u, k, s⟩ 5).sent], .bool (PinT.rose ⟨c, v, l, m, u, k, s⟩ 5)]) ∧ Below w.heap.size w w' := by
  go_enter Try.func39, Try.ntmps39
  go_wp2
  all_goals refine bodyPost_ret (v := .tuple #[.agg #[.int .i64 (PinT.move ⟨c, v, l, m, u, k, s⟩ 5).core, .int .i64 (PinT.move ⟨c, v, l, m, u, k, s⟩ 5).vec, .bool (PinT.move ⟨c, v, l, m, u, k, s⟩ 5).level, .bool (PinT.move ⟨c, v, l, m, u, k, s⟩ 5).masked, .bool (PinT.move ⟨c, v, l, m, u, k, s⟩ 5).up, .bool (PinT.move ⟨c, v, l, m, u, k, s⟩ 5).kept, .bool (PinT.move ⟨c, v, l, m, u, k, s⟩ 5).sent], .bool (PinT.rose ⟨c, v, l, m, u, k, s⟩ 5)]) (by simp [results, Try.results39, go_sem, PinT.move, PinT.rose, *]) rfl ⟨rfl, by repeat (first | (with_reducible exact Below.refl _ _) | ((with_reducible refine Below.setCell ?_ ?_ _); rotate_left; focus (first | (simp; done) | omega | (simp; omega))) | ((with_reducible refine Below.alloc ?_ ?_ _); rotate_left; focus (first | (simp; done) | omega | (simp; omega))))⟩
theorem change_R (p : PinT) (K : Int) (w : World) (h1 : 1 ≤ K) (h5 : K ≤ 5) (q : PinT) (r : Bool) (hq : p.move K = q) (hr : p.rose K = r) :
    Calls Try.prog 39 #[.agg #[.int .i64 p.core, .int .i64 p.vec, .bool p.level, .bool p.masked, .bool p.up, .bool p.kept, .bool p.sent], .int .i64 K] w fun e w' => e = .returned (.tuple #[.agg #[.int .i64 q.core, .int .i64 q.vec, .bool q.level, .bool q.masked, .bool q.up, .bool q.kept, .bool q.sent], .bool r]) ∧ Below w.heap.size w w' := by
  subst hq hr
  obtain ⟨c, v, l, m, u, k, s⟩ := p
  have hK : K = 1 ∨ K = 2 ∨ K = 3 ∨ K = 4 ∨ K = 5 := by omega
  rcases hK with rfl | rfl | rfl | rfl | rfl
  · exact change_1 c v l m u k s w
  · exact change_2 c v l m u k s w
  · exact change_3 c v l m u k s w
  · exact change_4 c v l m u k s w
  · exact change_5 c v l m u k s w
set_option maxHeartbeats 4000000 in
set_option maxRecDepth 100000 in
theorem sendLevel_0 (c v : Int) (l m u k s : Bool) (w : World) :
    Calls Try.prog 40 #[.agg #[.int .i64 c, .int .i64 v, .bool l, .bool m, .bool u, .bool k, .bool s]] w fun e w' => e = .returned (.tuple #[.agg #[.int .i64 (PinT.lev ⟨c, v, l, m, u, k, s⟩).1.core, .int .i64 (PinT.lev ⟨c, v, l, m, u, k, s⟩).1.vec, .bool (PinT.lev ⟨c, v, l, m, u, k, s⟩).1.level, .bool (PinT.lev ⟨c, v, l, m, u, k, s⟩).1.masked, .bool (PinT.lev ⟨c, v, l, m, u, k, s⟩).1.up, .bool (PinT.lev ⟨c, v, l, m, u, k, s⟩).1.kept, .bool (PinT.lev ⟨c, v, l, m, u, k, s⟩).1.sent], .bool (PinT.lev ⟨c, v, l, m, u, k, s⟩).2]) ∧ Below w.heap.size w w' := by
  go_enter Try.func40, Try.ntmps40
  go_wp2
  all_goals refine bodyPost_ret (v := .tuple #[.agg #[.int .i64 (PinT.lev ⟨c, v, l, m, u, k, s⟩).1.core, .int .i64 (PinT.lev ⟨c, v, l, m, u, k, s⟩).1.vec, .bool (PinT.lev ⟨c, v, l, m, u, k, s⟩).1.level, .bool (PinT.lev ⟨c, v, l, m, u, k, s⟩).1.masked, .bool (PinT.lev ⟨c, v, l, m, u, k, s⟩).1.up, .bool (PinT.lev ⟨c, v, l, m, u, k, s⟩).1.kept, .bool (PinT.lev ⟨c, v, l, m, u, k, s⟩).1.sent], .bool (PinT.lev ⟨c, v, l, m, u, k, s⟩).2]) (by simp [results, Try.results40, go_sem, PinT.lev, *]) rfl ⟨rfl, by repeat (first | (with_reducible exact Below.refl _ _) | ((with_reducible refine Below.setCell ?_ ?_ _); rotate_left; focus (first | (simp; done) | omega | (simp; omega))) | ((with_reducible refine Below.alloc ?_ ?_ _); rotate_left; focus (first | (simp; done) | omega | (simp; omega))))⟩
set_option maxHeartbeats 4000000 in
set_option maxRecDepth 100000 in
theorem sendEdge_0 (c v : Int) (l m u k s r : Bool) (w : World) :
    Calls Try.prog 41 #[.agg #[.int .i64 c, .int .i64 v, .bool l, .bool m, .bool u, .bool k, .bool s], .bool r] w fun e w' => e = .returned (.tuple #[.agg #[.int .i64 (PinT.edg ⟨c, v, l, m, u, k, s⟩ r).1.core, .int .i64 (PinT.edg ⟨c, v, l, m, u, k, s⟩ r).1.vec, .bool (PinT.edg ⟨c, v, l, m, u, k, s⟩ r).1.level, .bool (PinT.edg ⟨c, v, l, m, u, k, s⟩ r).1.masked, .bool (PinT.edg ⟨c, v, l, m, u, k, s⟩ r).1.up, .bool (PinT.edg ⟨c, v, l, m, u, k, s⟩ r).1.kept, .bool (PinT.edg ⟨c, v, l, m, u, k, s⟩ r).1.sent], .bool (PinT.edg ⟨c, v, l, m, u, k, s⟩ r).2]) ∧ Below w.heap.size w w' := by
  go_enter Try.func41, Try.ntmps41
  cases r <;> cases m <;> cases k
  all_goals
    go_upto_region 3 with fail
    go_region
    all_goals go_wp2_with fail
    all_goals refine bodyPost_ret (v := .tuple #[.agg _, .bool _]) (by simp [results, Try.results41, go_sem, PinT.edg, *]) rfl ⟨rfl, by repeat (first | (with_reducible assumption) | (with_reducible refine Below.drew ?_) | (with_reducible exact Below.refl _ _) | ((with_reducible refine Below.setCell ?_ ?_ _); rotate_left; focus (first | (simp; done) | omega | (simp; omega))) | ((with_reducible refine Below.alloc ?_ ?_ _); rotate_left; focus (first | (simp; done) | omega | (simp; omega))))⟩
theorem sendLevel_R (p : PinT) (w : World) (q : PinT) (t : Bool) (H : Hid (p.lev = (q, t))) : Calls Try.prog 40 #[.agg #[.int .i64 p.core, .int .i64 p.vec, .bool p.level, .bool p.masked, .bool p.up, .bool p.kept, .bool p.sent]] w fun e w' => e = .returned (.tuple #[.agg #[.int .i64 q.core, .int .i64 q.vec, .bool q.level, .bool q.masked, .bool q.up, .bool q.kept, .bool q.sent], .bool t]) ∧ Below w.heap.size w w' := by
  have H' := H.out
  obtain ⟨c, v, l, m, u, k, s⟩ := p
  have := sendLevel_0 c v l m u k s w
  rw [H'] at this
  exact this
theorem sendEdge_R (p : PinT) (r : Bool) (w : World) (q : PinT) (t : Bool) (H : Hid (p.edg r = (q, t))) : Calls Try.prog 41 #[.agg #[.int .i64 p.core, .int .i64 p.vec, .bool p.level, .bool p.masked, .bool p.up, .bool p.kept, .bool p.sent], .bool r] w fun e w' => e = .returned (.tuple #[.agg #[.int .i64 q.core, .int .i64 q.vec, .bool q.level, .bool q.masked, .bool q.up, .bool q.kept, .bool q.sent], .bool t]) ∧ Below w.heap.size w w' := by
  have H' := H.out
  obtain ⟨c, v, l, m, u, k, s⟩ := p
  have := sendEdge_0 c v l m u k s r w
  rw [H'] at this
  exact this
set_option maxHeartbeats 4000000 in
set_option maxRecDepth 100000 in
theorem check_R (ad : Option Addr) (n cap : Nat) (K P : Int) (w : World) :
    Calls Try.prog 24 #[.slice ad n cap, .agg #[.int .i64 K, .int .i64 P]] w fun e w' => e = .returned (.int .i64 (chk n K P)) ∧ Below w.heap.size w w' := by
  by_cases hK : 1 ≤ K ∧ K ≤ 5
  · have e5 : K = 1 ∨ K = 2 ∨ K = 3 ∨ K = 4 ∨ K = 5 := by omega
    by_cases h0 : P < 0
    · have d0 : decide (P < 0) = true := by simpa using h0
      have hc : chk n K P = 3 := by unfold chk; rw [if_pos hK, if_neg (by omega)]
      rw [hc]
      clear hc hK
      rcases e5 with rfl | rfl | rfl | rfl | rfl
      all_goals
        go_enter Try.func24, Try.ntmps24
        go_wp2
        all_goals refine bodyPost_ret (v := .int .i64 3) (by simp [results, Try.results24, go_sem]) rfl ⟨rfl, by repeat (first | (with_reducible assumption) | (with_reducible exact Below.refl _ _) | ((with_reducible refine Below.setCell ?_ ?_ _); rotate_left; focus (first | (simp; done) | omega | (simp; omega))) | ((with_reducible refine Below.alloc ?_ ?_ _); rotate_left; focus (first | (simp; done) | omega | (simp; omega))))⟩
    · have d0 : decide (P < 0) = false := by simpa using h0
      by_cases hn' : P < n
      · have d1 : decide ((n : Int) ≤ P) = false := by simp; omega
        have hc : chk n K P = 0 := by unfold chk; rw [if_pos hK, if_pos (by omega)]
        rw [hc]
        clear hc hK
        rcases e5 with rfl | rfl | rfl | rfl | rfl
        all_goals
          go_enter Try.func24, Try.ntmps24
          go_wp2
          all_goals refine bodyPost_ret (v := .int .i64 0) (by simp [results, Try.results24, go_sem]) rfl ⟨rfl, by repeat (first | (with_reducible assumption) | (with_reducible exact Below.refl _ _) | ((with_reducible refine Below.setCell ?_ ?_ _); rotate_left; focus (first | (simp; done) | omega | (simp; omega))) | ((with_reducible refine Below.alloc ?_ ?_ _); rotate_left; focus (first | (simp; done) | omega | (simp; omega))))⟩
      · have d1 : decide ((n : Int) ≤ P) = true := by simp; omega
        have hc : chk n K P = 3 := by unfold chk; rw [if_pos hK, if_neg (by omega)]
        rw [hc]
        clear hc hK
        rcases e5 with rfl | rfl | rfl | rfl | rfl
        all_goals
          go_enter Try.func24, Try.ntmps24
          go_wp2
          all_goals refine bodyPost_ret (v := .int .i64 3) (by simp [results, Try.results24, go_sem]) rfl ⟨rfl, by repeat (first | (with_reducible assumption) | (with_reducible exact Below.refl _ _) | ((with_reducible refine Below.setCell ?_ ?_ _); rotate_left; focus (first | (simp; done) | omega | (simp; omega))) | ((with_reducible refine Below.alloc ?_ ?_ _); rotate_left; focus (first | (simp; done) | omega | (simp; omega))))⟩
  · have hc : chk n K P = 5 := by unfold chk; rw [if_neg hK]
    rw [hc]
    have e1 : ¬ K = 1 := by omega
    have e2 : ¬ K = 2 := by omega
    have e3 : ¬ K = 3 := by omega
    have e4 : ¬ K = 4 := by omega
    have e5 : ¬ K = 5 := by omega
    clear hc hK
    go_enter Try.func24, Try.ntmps24
    go_wp2
    all_goals refine bodyPost_ret (v := .int .i64 5) (by simp [results, Try.results24, go_sem]) rfl ⟨rfl, by repeat (first | (with_reducible assumption) | (with_reducible exact Below.refl _ _) | ((with_reducible refine Below.setCell ?_ ?_ _); rotate_left; focus (first | (simp; done) | omega | (simp; omega))) | ((with_reducible refine Below.alloc ?_ ?_ _); rotate_left; focus (first | (simp; done) | omega | (simp; omega))))⟩
end Go.Proofs.Ytmldedkmmhnihaa
