/- The walk of corebellkeep.ApicRight: it returns true at every input. -/
import Derived.Test.YtgddbmbljlngnaaDoorAliveB
import Derived.Test.YtgddbmbljlngnaaDoorEqL
import Derived.Test.YtgddbmbljlngnaaDoorLocQ
namespace Go.Proofs.YtgddbmbljlngnaaDoor
open Go.RowKit

theorem step_Z (s : St) (k n x : Int) (w : World) (HO : Hid s.Ok) (hT : Tab w) (H : Hid (stepOf s k n = (St.zero, 0, x))) :
    Calls Tryd.prog 10 #[.agg #[.int .u64 s.a0, .int .u64 s.a1, .int .u64 s.a2, .int .u64 s.a3, .int .u64 s.s0, .int .u64 s.s1, .int .u64 s.s2, .int .u64 s.s3, .int .i64 s.c], .agg #[.int .i64 k, .int .i64 n]] w fun e w' => e = .returned (.tuple #[.agg #[.int .u64 0, .int .u64 0, .int .u64 0, .int .u64 0, .int .u64 0, .int .u64 0, .int .u64 0, .int .u64 0, .int .i64 0], .int .i64 0, .int .i64 x]) ∧ Below w.heap.size w w' :=
  step_R s St.zero k n 0 x w HO hT H
theorem alive2_T (w : World) (hT : Tab w) : Calls Tryd.prog 16 #[] w fun e w' => e = .returned (.bool true) ∧ Below w.heap.size w w' := alive2_any w hT
set_option maxHeartbeats 4000000 in
set_option maxRecDepth 100000 in
theorem right_err (s : St) (k n x : Int) (w : World) (HO : Hid s.Ok) (HT : Hid (Tab w)) (H : Hid (stepOf s k n = (St.zero, 0, x))) (hx : (x != 0) = true) :
    Calls Tryd.prog 4 #[.agg #[.int .u64 s.a0, .int .u64 s.a1, .int .u64 s.a2, .int .u64 s.a3, .int .u64 s.s0, .int .u64 s.s1, .int .u64 s.s2, .int .u64 s.s3, .int .i64 s.c], .agg #[.int .i64 k, .int .i64 n]] w fun e w' => e = .returned (.bool true) ∧ Below w.heap.size w w' := by
  have heq : ∀ (x0 x1 x2 x3 x4 x5 x6 x7 x8 : Int) (w : World), (Op.equalIn 10000 26 (.agg #[.int .u64 x0, .int .u64 x1, .int .u64 x2, .int .u64 x3, .int .u64 x4, .int .u64 x5, .int .u64 x6, .int .u64 x7, .int .i64 x8]) (.agg #[.int .u64 x0, .int .u64 x1, .int .u64 x2, .int .u64 x3, .int .u64 x4, .int .u64 x5, .int .u64 x6, .int .u64 x7, .int .i64 x8])).run Tryd.prog w = .ok true w := eq_local
  go_enter Tryd.func4, Tryd.ntmps4
  go_wp2_with fail
  with_reducible refine (alive2_T _ ?_).mono ?_
  focus (refine HT.out.below (show Below w.heap.size w _ from ?_); repeat (first | (with_reducible assumption) | (with_reducible exact Below.refl _ _) | ((with_reducible refine Below.setCell ?_ ?_ _); rotate_left; focus (first | (simp; done) | omega | (simp; omega))) | ((with_reducible refine Below.alloc ?_ ?_ _); rotate_left; focus (first | (simp; done) | omega | (simp; omega)))))
  rintro e w1 ⟨rfl, hb⟩
  have Z1_0 := bat hb (w.heap.size) (by first | omega | (simp; done) | (simp; omega))
  have ZL1_0 := Z1_0.2.2
  have Z1_1 := bat hb (w.heap.size + 1) (by first | omega | (simp; done) | (simp; omega))
  have ZL1_1 := Z1_1.2.2
  have BB1 := bstep (W := w) (by repeat (first | (with_reducible assumption) | (with_reducible exact Below.refl _ _) | ((with_reducible refine Below.setCell ?_ ?_ _); rotate_left; focus (first | (simp; done) | omega | (simp; omega))) | ((with_reducible refine Below.alloc ?_ ?_ _); rotate_left; focus (first | (simp; done) | omega | (simp; omega))))) hb
  have LL1 := BB1.size
  clear hb
  go_wp2_with fail
  with_reducible refine (step_Z s k n x _ HO ?_ H).mono ?_
  focus (refine HT.out.below (show Below w.heap.size w _ from ?_); repeat (first | (with_reducible assumption) | (with_reducible exact Below.refl _ _) | ((with_reducible refine Below.setCell ?_ ?_ _); rotate_left; focus (first | (simp; done) | omega | (simp; omega))) | ((with_reducible refine Below.alloc ?_ ?_ _); rotate_left; focus (first | (simp; done) | omega | (simp; omega)))))
  rintro e w2 ⟨rfl, hb⟩
  have BB2 := bstep (W := w) (by repeat (first | (with_reducible assumption) | (with_reducible exact Below.refl _ _) | ((with_reducible refine Below.setCell ?_ ?_ _); rotate_left; focus (first | (simp; done) | omega | (simp; omega))) | ((with_reducible refine Below.alloc ?_ ?_ _); rotate_left; focus (first | (simp; done) | omega | (simp; omega))))) hb
  have LL2 := BB2.size
  clear hb
  go_wp2_with fail
  go_ret
  exact ⟨rfl, by repeat (first | (with_reducible assumption) | (with_reducible exact Below.refl _ _) | ((with_reducible refine Below.setCell ?_ ?_ _); rotate_left; focus (first | (simp; done) | omega | (simp; omega))) | ((with_reducible refine Below.alloc ?_ ?_ _); rotate_left; focus (first | (simp; done) | omega | (simp; omega))))⟩
set_option maxHeartbeats 4000000 in
set_option maxRecDepth 100000 in
theorem right_ok (s r : St) (k n v : Int) (w : World) (HO : Hid s.Ok) (HT : Hid (Tab w)) (H : Hid (stepOf s k n = (r, v, 0))) (OR : Hid r.Ok) (HR : Hid (r.right = true)) :
    Calls Tryd.prog 4 #[.agg #[.int .u64 s.a0, .int .u64 s.a1, .int .u64 s.a2, .int .u64 s.a3, .int .u64 s.s0, .int .u64 s.s1, .int .u64 s.s2, .int .u64 s.s3, .int .i64 s.c], .agg #[.int .i64 k, .int .i64 n]] w fun e w' => e = .returned (.bool true) ∧ Below w.heap.size w w' := by
  go_enter Tryd.func4, Tryd.ntmps4
  go_wp2_with fail
  with_reducible refine (alive2_T _ ?_).mono ?_
  focus (refine HT.out.below (show Below w.heap.size w _ from ?_); repeat (first | (with_reducible assumption) | (with_reducible exact Below.refl _ _) | ((with_reducible refine Below.setCell ?_ ?_ _); rotate_left; focus (first | (simp; done) | omega | (simp; omega))) | ((with_reducible refine Below.alloc ?_ ?_ _); rotate_left; focus (first | (simp; done) | omega | (simp; omega)))))
  rintro e w1 ⟨rfl, hb⟩
  have Z1_0 := bat hb (w.heap.size) (by first | omega | (simp; done) | (simp; omega))
  have ZL1_0 := Z1_0.2.2
  have Z1_1 := bat hb (w.heap.size + 1) (by first | omega | (simp; done) | (simp; omega))
  have ZL1_1 := Z1_1.2.2
  have BB1 := bstep (W := w) (by repeat (first | (with_reducible assumption) | (with_reducible exact Below.refl _ _) | ((with_reducible refine Below.setCell ?_ ?_ _); rotate_left; focus (first | (simp; done) | omega | (simp; omega))) | ((with_reducible refine Below.alloc ?_ ?_ _); rotate_left; focus (first | (simp; done) | omega | (simp; omega))))) hb
  have LL1 := BB1.size
  clear hb
  go_wp2_with fail
  with_reducible refine (step_R s r k n v 0 _ HO ?_ H).mono ?_
  focus (refine HT.out.below (show Below w.heap.size w _ from ?_); repeat (first | (with_reducible assumption) | (with_reducible exact Below.refl _ _) | ((with_reducible refine Below.setCell ?_ ?_ _); rotate_left; focus (first | (simp; done) | omega | (simp; omega))) | ((with_reducible refine Below.alloc ?_ ?_ _); rotate_left; focus (first | (simp; done) | omega | (simp; omega)))))
  rintro e w2 ⟨rfl, hb⟩
  have BB2 := bstep (W := w) (by repeat (first | (with_reducible assumption) | (with_reducible exact Below.refl _ _) | ((with_reducible refine Below.setCell ?_ ?_ _); rotate_left; focus (first | (simp; done) | omega | (simp; omega))) | ((with_reducible refine Below.alloc ?_ ?_ _); rotate_left; focus (first | (simp; done) | omega | (simp; omega))))) hb
  have LL2 := BB2.size
  clear hb
  go_wp2_with fail
  with_reducible refine (right_R r true _ OR ?_ HR).mono ?_
  focus (refine HT.out.below (show Below w.heap.size w _ from ?_); repeat (first | (with_reducible assumption) | (with_reducible exact Below.refl _ _) | ((with_reducible refine Below.setCell ?_ ?_ _); rotate_left; focus (first | (simp; done) | omega | (simp; omega))) | ((with_reducible refine Below.alloc ?_ ?_ _); rotate_left; focus (first | (simp; done) | omega | (simp; omega)))))
  rintro e w3 ⟨rfl, hb⟩
  have BB3 := bstep (W := w) (by repeat (first | (with_reducible assumption) | (with_reducible exact Below.refl _ _) | ((with_reducible refine Below.setCell ?_ ?_ _); rotate_left; focus (first | (simp; done) | omega | (simp; omega))) | ((with_reducible refine Below.alloc ?_ ?_ _); rotate_left; focus (first | (simp; done) | omega | (simp; omega))))) hb
  have LL3 := BB3.size
  clear hb
  go_wp2_with fail
  go_ret
  exact ⟨rfl, by repeat (first | (with_reducible assumption) | (with_reducible exact Below.refl _ _) | ((with_reducible refine Below.setCell ?_ ?_ _); rotate_left; focus (first | (simp; done) | omega | (simp; omega))) | ((with_reducible refine Below.alloc ?_ ?_ _); rotate_left; focus (first | (simp; done) | omega | (simp; omega))))⟩
theorem apicRight_walk (s : St) (k n : Int) (w : World) (h : s.Ok) (hT : Tab w) :
    Calls Tryd.prog 4 #[.agg #[.int .u64 s.a0, .int .u64 s.a1, .int .u64 s.a2, .int .u64 s.a3, .int .u64 s.s0, .int .u64 s.s1, .int .u64 s.s2, .int .u64 s.s3, .int .i64 s.c], .agg #[.int .i64 k, .int .i64 n]] w fun e w' => e = .returned (.bool true) ∧ Below w.heap.size w w' := by
  rcases step_split s k n with ⟨x, hx, H⟩ | ⟨r, v, H⟩
  · exact right_err s k n x w h hT H (by simpa using hx)
  · exact right_ok s r k n v w h hT H (step_ok' h H) (step_right H)
end Go.Proofs.YtgddbmbljlngnaaDoor
