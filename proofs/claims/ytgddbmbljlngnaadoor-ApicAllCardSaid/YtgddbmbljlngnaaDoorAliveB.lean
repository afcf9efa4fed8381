/- The walk of corebellkeep.alive2: the document's example holds: it returns true. -/
import Derived.Test.YtgddbmbljlngnaaDoorLocE
namespace Go.Proofs.YtgddbmbljlngnaaDoor
open Go.RowKit

theorem al_ok0 : (⟨0, 0, 0, 0, 0, 0, 0, 0, 0⟩ : St).Ok := by unfold St.Ok Go.Proofs.YtgddbmbljlngnaaDoor.Ok; decide
theorem al_ok1 : (⟨0, 1, 0, 0, 0, 0, 0, 0, 0⟩ : St).Ok := by unfold St.Ok Go.Proofs.YtgddbmbljlngnaaDoor.Ok; decide
theorem al_ok2 : (⟨0, 0, 0, 0, 0, 1, 0, 0, 0⟩ : St).Ok := by unfold St.Ok Go.Proofs.YtgddbmbljlngnaaDoor.Ok; decide
theorem al_ok3 : (⟨0, 64, 0, 0, 0, 1, 0, 0, 0⟩ : St).Ok := by unfold St.Ok Go.Proofs.YtgddbmbljlngnaaDoor.Ok; decide
theorem al_ask (w : World) (hT : Tab w) : Calls Tryd.prog 10 #[.agg #[.int .u64 0, .int .u64 0, .int .u64 0, .int .u64 0, .int .u64 0, .int .u64 0, .int .u64 0, .int .u64 0, .int .i64 0], .agg #[.int .i64 1, .int .i64 64]] w fun e w' => e = .returned (.tuple #[.agg #[.int .u64 0, .int .u64 1, .int .u64 0, .int .u64 0, .int .u64 0, .int .u64 0, .int .u64 0, .int .u64 0, .int .i64 0], .int .i64 (-1), .int .i64 0]) ∧ Below w.heap.size w w' :=
  step_R ⟨0, 0, 0, 0, 0, 0, 0, 0, 0⟩ ⟨0, 1, 0, 0, 0, 0, 0, 0, 0⟩ 1 64 (-1) 0 w al_ok0 hT (show stepOf ⟨0, 0, 0, 0, 0, 0, 0, 0, 0⟩ 1 64 = (⟨0, 1, 0, 0, 0, 0, 0, 0, 0⟩, (-1), 0) by kernel_rfl)
theorem al_take (w : World) (hT : Tab w) : Calls Tryd.prog 10 #[.agg #[.int .u64 0, .int .u64 1, .int .u64 0, .int .u64 0, .int .u64 0, .int .u64 0, .int .u64 0, .int .u64 0, .int .i64 0], .agg #[.int .i64 2, .int .i64 0]] w fun e w' => e = .returned (.tuple #[.agg #[.int .u64 0, .int .u64 0, .int .u64 0, .int .u64 0, .int .u64 0, .int .u64 1, .int .u64 0, .int .u64 0, .int .i64 0], .int .i64 (64), .int .i64 0]) ∧ Below w.heap.size w w' :=
  step_R ⟨0, 1, 0, 0, 0, 0, 0, 0, 0⟩ ⟨0, 0, 0, 0, 0, 1, 0, 0, 0⟩ 2 0 (64) 0 w al_ok1 hT (show stepOf ⟨0, 1, 0, 0, 0, 0, 0, 0, 0⟩ 2 0 = (⟨0, 0, 0, 0, 0, 1, 0, 0, 0⟩, (64), 0) by kernel_rfl)
theorem al_more (w : World) (hT : Tab w) : Calls Tryd.prog 10 #[.agg #[.int .u64 0, .int .u64 0, .int .u64 0, .int .u64 0, .int .u64 0, .int .u64 1, .int .u64 0, .int .u64 0, .int .i64 0], .agg #[.int .i64 1, .int .i64 70]] w fun e w' => e = .returned (.tuple #[.agg #[.int .u64 0, .int .u64 64, .int .u64 0, .int .u64 0, .int .u64 0, .int .u64 1, .int .u64 0, .int .u64 0, .int .i64 0], .int .i64 (-1), .int .i64 0]) ∧ Below w.heap.size w w' :=
  step_R ⟨0, 0, 0, 0, 0, 1, 0, 0, 0⟩ ⟨0, 64, 0, 0, 0, 1, 0, 0, 0⟩ 1 70 (-1) 0 w al_ok2 hT (show stepOf ⟨0, 0, 0, 0, 0, 1, 0, 0, 0⟩ 1 70 = (⟨0, 64, 0, 0, 0, 1, 0, 0, 0⟩, (-1), 0) by kernel_rfl)
theorem al_would (w : World) (hT : Tab w) : Calls Tryd.prog 14 #[.agg #[.int .u64 0, .int .u64 64, .int .u64 0, .int .u64 0, .int .u64 0, .int .u64 1, .int .u64 0, .int .u64 0, .int .i64 0]] w fun e w' => e = .returned (.int .i64 (-1)) ∧ Below w.heap.size w w' :=
  would_R ⟨0, 64, 0, 0, 0, 1, 0, 0, 0⟩ (-1) w al_ok3 hT (show St.would ⟨0, 64, 0, 0, 0, 1, 0, 0, 0⟩ = -1 by kernel_rfl)
theorem al_right (w : World) (hT : Tab w) : Calls Tryd.prog 12 #[.agg #[.int .u64 0, .int .u64 64, .int .u64 0, .int .u64 0, .int .u64 0, .int .u64 1, .int .u64 0, .int .u64 0, .int .i64 0]] w fun e w' => e = .returned (.bool true) ∧ Below w.heap.size w w' :=
  right_R ⟨0, 64, 0, 0, 0, 1, 0, 0, 0⟩ true w al_ok3 hT (show St.right ⟨0, 64, 0, 0, 0, 1, 0, 0, 0⟩ = true by kernel_rfl)

set_option maxHeartbeats 2000000 in
set_option maxRecDepth 100000 in
theorem alive2_any (w : World) (HT : Hid (Tab w)) :
    Calls Tryd.prog 16 #[] w fun e w' => e = .returned (.bool true) ∧ Below w.heap.size w w' := by
  go_enter Tryd.func16, Tryd.ntmps16
  go_wp2_with fail
  with_reducible refine (al_ask _ ?_).mono ?_
  focus (refine HT.out.below (show Below w.heap.size w _ from ?_); repeat (first | (with_reducible assumption) | (with_reducible exact Below.refl _ _) | ((with_reducible refine Below.setCell ?_ ?_ _); rotate_left; focus (first | (simp; done) | omega | (simp; omega))) | ((with_reducible refine Below.alloc ?_ ?_ _); rotate_left; focus (first | (simp; done) | omega | (simp; omega)))))
  rintro e w1 ⟨rfl, hb⟩
  have BB1 := bstep (W := w) (by repeat (first | (with_reducible assumption) | (with_reducible exact Below.refl _ _) | ((with_reducible refine Below.setCell ?_ ?_ _); rotate_left; focus (first | (simp; done) | omega | (simp; omega))) | ((with_reducible refine Below.alloc ?_ ?_ _); rotate_left; focus (first | (simp; done) | omega | (simp; omega))))) hb
  have LL1 := BB1.size
  clear hb
  go_wp2_with fail
  with_reducible refine (al_take _ ?_).mono ?_
  focus (refine HT.out.below (show Below w.heap.size w _ from ?_); repeat (first | (with_reducible assumption) | (with_reducible exact Below.refl _ _) | ((with_reducible refine Below.setCell ?_ ?_ _); rotate_left; focus (first | (simp; done) | omega | (simp; omega))) | ((with_reducible refine Below.alloc ?_ ?_ _); rotate_left; focus (first | (simp; done) | omega | (simp; omega)))))
  rintro e w2 ⟨rfl, hb⟩
  have BB2 := bstep (W := w) (by repeat (first | (with_reducible assumption) | (with_reducible exact Below.refl _ _) | ((with_reducible refine Below.setCell ?_ ?_ _); rotate_left; focus (first | (simp; done) | omega | (simp; omega))) | ((with_reducible refine Below.alloc ?_ ?_ _); rotate_left; focus (first | (simp; done) | omega | (simp; omega))))) hb
  have LL2 := BB2.size
  clear hb
  go_wp2_with fail
  with_reducible refine (al_more _ ?_).mono ?_
  focus (refine HT.out.below (show Below w.heap.size w _ from ?_); repeat (first | (with_reducible assumption) | (with_reducible exact Below.refl _ _) | ((with_reducible refine Below.setCell ?_ ?_ _); rotate_left; focus (first | (simp; done) | omega | (simp; omega))) | ((with_reducible refine Below.alloc ?_ ?_ _); rotate_left; focus (first | (simp; done) | omega | (simp; omega)))))
  rintro e w3 ⟨rfl, hb⟩
  have BB3 := bstep (W := w) (by repeat (first | (with_reducible assumption) | (with_reducible exact Below.refl _ _) | ((with_reducible refine Below.setCell ?_ ?_ _); rotate_left; focus (first | (simp; done) | omega | (simp; omega))) | ((with_reducible refine Below.alloc ?_ ?_ _); rotate_left; focus (first | (simp; done) | omega | (simp; omega))))) hb
  have LL3 := BB3.size
  clear hb
  go_wp2_with fail
  with_reducible refine (al_would _ ?_).mono ?_
  focus (refine HT.out.below (show Below w.heap.size w _ from ?_); repeat (first | (with_reducible assumption) | (with_reducible exact Below.refl _ _) | ((with_reducible refine Below.setCell ?_ ?_ _); rotate_left; focus (first | (simp; done) | omega | (simp; omega))) | ((with_reducible refine Below.alloc ?_ ?_ _); rotate_left; focus (first | (simp; done) | omega | (simp; omega)))))
  rintro e w4 ⟨rfl, hb⟩
  have Z4 := bat hb w3.heap.size (by first | omega | (simp; done) | (simp; omega))
  have BB4 := bstep (W := w) (by repeat (first | (with_reducible assumption) | (with_reducible exact Below.refl _ _) | ((with_reducible refine Below.setCell ?_ ?_ _); rotate_left; focus (first | (simp; done) | omega | (simp; omega))) | ((with_reducible refine Below.alloc ?_ ?_ _); rotate_left; focus (first | (simp; done) | omega | (simp; omega))))) hb
  have LL4 := BB4.size
  clear hb
  go_wp2_with fail
  with_reducible refine (al_right _ ?_).mono ?_
  focus (refine HT.out.below (show Below w.heap.size w _ from ?_); repeat (first | (with_reducible assumption) | (with_reducible exact Below.refl _ _) | ((with_reducible refine Below.setCell ?_ ?_ _); rotate_left; focus (first | (simp; done) | omega | (simp; omega))) | ((with_reducible refine Below.alloc ?_ ?_ _); rotate_left; focus (first | (simp; done) | omega | (simp; omega)))))
  rintro e w5 ⟨rfl, hb⟩
  have BB5 := bstep (W := w) (by repeat (first | (with_reducible assumption) | (with_reducible exact Below.refl _ _) | ((with_reducible refine Below.setCell ?_ ?_ _); rotate_left; focus (first | (simp; done) | omega | (simp; omega))) | ((with_reducible refine Below.alloc ?_ ?_ _); rotate_left; focus (first | (simp; done) | omega | (simp; omega))))) hb
  have LL5 := BB5.size
  clear hb
  go_wp2_with fail
  go_ret
  exact ⟨rfl, by repeat (first | (with_reducible assumption) | (with_reducible exact Below.refl _ _) | ((with_reducible refine Below.setCell ?_ ?_ _); rotate_left; focus (first | (simp; done) | omega | (simp; omega))) | ((with_reducible refine Below.alloc ?_ ?_ _); rotate_left; focus (first | (simp; done) | omega | (simp; omega))))⟩
end Go.Proofs.YtgddbmbljlngnaaDoor
