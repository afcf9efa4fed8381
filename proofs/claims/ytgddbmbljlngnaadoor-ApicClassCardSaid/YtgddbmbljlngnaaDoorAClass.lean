/- The walk of corebellkeep.ApicClass: it returns true at every input. -/
import Derived.Test.YtgddbmbljlngnaaDoorLocR
namespace Go.Proofs.YtgddbmbljlngnaaDoor
open Go.RowKit

theorem step_C (s : St) (n : Int) (w : World) (HO : Hid s.Ok) (hT : Tab w) (hr : Hid (s.right = true)) (hn : Hid (clsB n = true)) :
    Calls Tryd.prog 10 #[.agg #[.int .u64 s.a0, .int .u64 s.a1, .int .u64 s.a2, .int .u64 s.a3, .int .u64 s.s0, .int .u64 s.s1, .int .u64 s.s2, .int .u64 s.s3, .int .i64 s.c], .agg #[.int .i64 4, .int .i64 n]] w fun e w' => e = .returned (.tuple #[.agg #[.int .u64 s.a0, .int .u64 s.a1, .int .u64 s.a2, .int .u64 s.a3, .int .u64 s.s0, .int .u64 s.s1, .int .u64 s.s2, .int .u64 s.s3, .int .i64 n], .int .i64 (-1), .int .i64 0]) ∧ Below w.heap.size w w' :=
  step_R s { s with c := n } 4 n (-1) 0 w HO hT (show stepOf s 4 n = _ by unfold stepOf; simp [hr.out, hn.out])
theorem would_C (s : St) (c v : Int) (w : World) (HO : Hid s.Ok) (hT : Tab w) (hv : Hid (wouldOf s.p s.q c = v)) :
    Calls Tryd.prog 14 #[.agg #[.int .u64 s.a0, .int .u64 s.a1, .int .u64 s.a2, .int .u64 s.a3, .int .u64 s.s0, .int .u64 s.s1, .int .u64 s.s2, .int .u64 s.s3, .int .i64 c]] w fun e w' => e = .returned (.int .i64 v) ∧ Below w.heap.size w w' :=
  would_R { s with c := c } v w ⟨HO.out.1, HO.out.2⟩ hT hv
set_option maxHeartbeats 4000000 in
set_option maxRecDepth 100000 in
theorem class_e (s : St) (r : St) (x v y : Int) (a b : Int) (w : World) (HO : Hid s.Ok) (HT : Hid (Tab w)) (H : Hid (stepOf s 4 a = (St.zero, 0, x))) (hx : (x != 0) = true) (H2 : Hid (stepOf s 4 b = (r, v, y))) :
    Calls Tryd.prog 8 #[.agg #[.int .u64 s.a0, .int .u64 s.a1, .int .u64 s.a2, .int .u64 s.a3, .int .u64 s.s0, .int .u64 s.s1, .int .u64 s.s2, .int .u64 s.s3, .int .i64 s.c], .int .i64 a, .int .i64 b] w fun e w' => e = .returned (.bool true) ∧ Below w.heap.size w w' := by
  go_enter Tryd.func8, Tryd.ntmps8
  go_wp2_with fail
  with_reducible refine (alive2_T _ ?_).mono ?_
  focus (refine HT.out.below (show Below w.heap.size w _ from ?_); repeat (first | (with_reducible assumption) | (with_reducible exact Below.refl _ _) | ((with_reducible refine Below.setCell ?_ ?_ _); rotate_left; focus (first | (simp; done) | omega | (simp; omega))) | ((with_reducible refine Below.alloc ?_ ?_ _); rotate_left; focus (first | (simp; done) | omega | (simp; omega)))))
  rintro e w1 ⟨rfl, hb⟩
  have Z1_0 := bat hb (w.heap.size) (by first | omega | (simp; done) | (simp; omega))
  have ZL1_0 := Z1_0.2.2
  have BB1 := bstep (W := w) (by repeat (first | (with_reducible assumption) | (with_reducible exact Below.refl _ _) | ((with_reducible refine Below.setCell ?_ ?_ _); rotate_left; focus (first | (simp; done) | omega | (simp; omega))) | ((with_reducible refine Below.alloc ?_ ?_ _); rotate_left; focus (first | (simp; done) | omega | (simp; omega))))) hb
  have LL1 := BB1.size
  clear hb
  go_wp2_with fail
  with_reducible refine (step_Z s 4 a x _ HO ?_ H).mono ?_
  focus (refine HT.out.below (show Below w.heap.size w _ from ?_); repeat (first | (with_reducible assumption) | (with_reducible exact Below.refl _ _) | ((with_reducible refine Below.setCell ?_ ?_ _); rotate_left; focus (first | (simp; done) | omega | (simp; omega))) | ((with_reducible refine Below.alloc ?_ ?_ _); rotate_left; focus (first | (simp; done) | omega | (simp; omega)))))
  rintro e w2 ⟨rfl, hb⟩
  have Z2_0 := bat hb (w.heap.size) (by first | omega | (simp; done) | (simp; omega))
  have ZL2_0 := Z2_0.2.2
  have BB2 := bstep (W := w) (by repeat (first | (with_reducible assumption) | (with_reducible exact Below.refl _ _) | ((with_reducible refine Below.setCell ?_ ?_ _); rotate_left; focus (first | (simp; done) | omega | (simp; omega))) | ((with_reducible refine Below.alloc ?_ ?_ _); rotate_left; focus (first | (simp; done) | omega | (simp; omega))))) hb
  have LL2 := BB2.size
  clear hb
  go_wp2_with fail
  with_reducible refine (step_R s r 4 b v y _ HO ?_ H2).mono ?_
  focus (refine HT.out.below (show Below w.heap.size w _ from ?_); repeat (first | (with_reducible assumption) | (with_reducible exact Below.refl _ _) | ((with_reducible refine Below.setCell ?_ ?_ _); rotate_left; focus (first | (simp; done) | omega | (simp; omega))) | ((with_reducible refine Below.alloc ?_ ?_ _); rotate_left; focus (first | (simp; done) | omega | (simp; omega)))))
  rintro e w3 ⟨rfl, hb⟩
  have BB3 := bstep (W := w) (by repeat (first | (with_reducible assumption) | (with_reducible exact Below.refl _ _) | ((with_reducible refine Below.setCell ?_ ?_ _); rotate_left; focus (first | (simp; done) | omega | (simp; omega))) | ((with_reducible refine Below.alloc ?_ ?_ _); rotate_left; focus (first | (simp; done) | omega | (simp; omega))))) hb
  have LL3 := BB3.size
  clear hb
  go_wp2_with fail
  go_ret
  exact ⟨rfl, by repeat (first | (with_reducible assumption) | (with_reducible exact Below.refl _ _) | ((with_reducible refine Below.setCell ?_ ?_ _); rotate_left; focus (first | (simp; done) | omega | (simp; omega))) | ((with_reducible refine Below.alloc ?_ ?_ _); rotate_left; focus (first | (simp; done) | omega | (simp; omega))))⟩
set_option maxHeartbeats 4000000 in
set_option maxRecDepth 100000 in
theorem class_f (s : St) (x : Int) (a b : Int) (w : World) (HO : Hid s.Ok) (HT : Hid (Tab w)) (Hr : Hid (s.right = true)) (Ha : Hid (clsB a = true)) (H : Hid (stepOf s 4 b = (St.zero, 0, x))) (hx : (x != 0) = true) :
    Calls Tryd.prog 8 #[.agg #[.int .u64 s.a0, .int .u64 s.a1, .int .u64 s.a2, .int .u64 s.a3, .int .u64 s.s0, .int .u64 s.s1, .int .u64 s.s2, .int .u64 s.s3, .int .i64 s.c], .int .i64 a, .int .i64 b] w fun e w' => e = .returned (.bool true) ∧ Below w.heap.size w w' := by
  go_enter Tryd.func8, Tryd.ntmps8
  go_wp2_with fail
  with_reducible refine (alive2_T _ ?_).mono ?_
  focus (refine HT.out.below (show Below w.heap.size w _ from ?_); repeat (first | (with_reducible assumption) | (with_reducible exact Below.refl _ _) | ((with_reducible refine Below.setCell ?_ ?_ _); rotate_left; focus (first | (simp; done) | omega | (simp; omega))) | ((with_reducible refine Below.alloc ?_ ?_ _); rotate_left; focus (first | (simp; done) | omega | (simp; omega)))))
  rintro e w1 ⟨rfl, hb⟩
  have Z1_0 := bat hb (w.heap.size) (by first | omega | (simp; done) | (simp; omega))
  have ZL1_0 := Z1_0.2.2
  have BB1 := bstep (W := w) (by repeat (first | (with_reducible assumption) | (with_reducible exact Below.refl _ _) | ((with_reducible refine Below.setCell ?_ ?_ _); rotate_left; focus (first | (simp; done) | omega | (simp; omega))) | ((with_reducible refine Below.alloc ?_ ?_ _); rotate_left; focus (first | (simp; done) | omega | (simp; omega))))) hb
  have LL1 := BB1.size
  clear hb
  go_wp2_with fail
  with_reducible refine (step_C s a _ HO ?_ Hr Ha).mono ?_
  focus (refine HT.out.below (show Below w.heap.size w _ from ?_); repeat (first | (with_reducible assumption) | (with_reducible exact Below.refl _ _) | ((with_reducible refine Below.setCell ?_ ?_ _); rotate_left; focus (first | (simp; done) | omega | (simp; omega))) | ((with_reducible refine Below.alloc ?_ ?_ _); rotate_left; focus (first | (simp; done) | omega | (simp; omega)))))
  rintro e w2 ⟨rfl, hb⟩
  have Z2_0 := bat hb (w.heap.size) (by first | omega | (simp; done) | (simp; omega))
  have ZL2_0 := Z2_0.2.2
  have BB2 := bstep (W := w) (by repeat (first | (with_reducible assumption) | (with_reducible exact Below.refl _ _) | ((with_reducible refine Below.setCell ?_ ?_ _); rotate_left; focus (first | (simp; done) | omega | (simp; omega))) | ((with_reducible refine Below.alloc ?_ ?_ _); rotate_left; focus (first | (simp; done) | omega | (simp; omega))))) hb
  have LL2 := BB2.size
  clear hb
  go_wp2_with fail
  with_reducible refine (step_Z s 4 b x _ HO ?_ H).mono ?_
  focus (refine HT.out.below (show Below w.heap.size w _ from ?_); repeat (first | (with_reducible assumption) | (with_reducible exact Below.refl _ _) | ((with_reducible refine Below.setCell ?_ ?_ _); rotate_left; focus (first | (simp; done) | omega | (simp; omega))) | ((with_reducible refine Below.alloc ?_ ?_ _); rotate_left; focus (first | (simp; done) | omega | (simp; omega)))))
  rintro e w3 ⟨rfl, hb⟩
  have BB3 := bstep (W := w) (by repeat (first | (with_reducible assumption) | (with_reducible exact Below.refl _ _) | ((with_reducible refine Below.setCell ?_ ?_ _); rotate_left; focus (first | (simp; done) | omega | (simp; omega))) | ((with_reducible refine Below.alloc ?_ ?_ _); rotate_left; focus (first | (simp; done) | omega | (simp; omega))))) hb
  have LL3 := BB3.size
  clear hb
  go_wp2_with fail
  go_ret
  exact ⟨rfl, by repeat (first | (with_reducible assumption) | (with_reducible exact Below.refl _ _) | ((with_reducible refine Below.setCell ?_ ?_ _); rotate_left; focus (first | (simp; done) | omega | (simp; omega))) | ((with_reducible refine Below.alloc ?_ ?_ _); rotate_left; focus (first | (simp; done) | omega | (simp; omega))))⟩
set_option maxHeartbeats 4000000 in
set_option maxRecDepth 100000 in
theorem class_gt (s : St) (a b : Int) (w : World) (HO : Hid s.Ok) (HT : Hid (Tab w)) (Hr : Hid (s.right = true)) (Ha : Hid (clsB a = true)) (Hb : Hid (clsB b = true)) (h : b < a) :
    Calls Tryd.prog 8 #[.agg #[.int .u64 s.a0, .int .u64 s.a1, .int .u64 s.a2, .int .u64 s.a3, .int .u64 s.s0, .int .u64 s.s1, .int .u64 s.s2, .int .u64 s.s3, .int .i64 s.c], .int .i64 a, .int .i64 b] w fun e w' => e = .returned (.bool true) ∧ Below w.heap.size w w' := by
  go_enter Tryd.func8, Tryd.ntmps8
  go_wp2_with fail
  with_reducible refine (alive2_T _ ?_).mono ?_
  focus (refine HT.out.below (show Below w.heap.size w _ from ?_); repeat (first | (with_reducible assumption) | (with_reducible exact Below.refl _ _) | ((with_reducible refine Below.setCell ?_ ?_ _); rotate_left; focus (first | (simp; done) | omega | (simp; omega))) | ((with_reducible refine Below.alloc ?_ ?_ _); rotate_left; focus (first | (simp; done) | omega | (simp; omega)))))
  rintro e w1 ⟨rfl, hb⟩
  have Z1_0 := bat hb (w.heap.size) (by first | omega | (simp; done) | (simp; omega))
  have ZL1_0 := Z1_0.2.2
  have BB1 := bstep (W := w) (by repeat (first | (with_reducible assumption) | (with_reducible exact Below.refl _ _) | ((with_reducible refine Below.setCell ?_ ?_ _); rotate_left; focus (first | (simp; done) | omega | (simp; omega))) | ((with_reducible refine Below.alloc ?_ ?_ _); rotate_left; focus (first | (simp; done) | omega | (simp; omega))))) hb
  have LL1 := BB1.size
  clear hb
  go_wp2_with fail
  with_reducible refine (step_C s a _ HO ?_ Hr Ha).mono ?_
  focus (refine HT.out.below (show Below w.heap.size w _ from ?_); repeat (first | (with_reducible assumption) | (with_reducible exact Below.refl _ _) | ((with_reducible refine Below.setCell ?_ ?_ _); rotate_left; focus (first | (simp; done) | omega | (simp; omega))) | ((with_reducible refine Below.alloc ?_ ?_ _); rotate_left; focus (first | (simp; done) | omega | (simp; omega)))))
  rintro e w2 ⟨rfl, hb⟩
  have Z2_0 := bat hb (w.heap.size) (by first | omega | (simp; done) | (simp; omega))
  have ZL2_0 := Z2_0.2.2
  have BB2 := bstep (W := w) (by repeat (first | (with_reducible assumption) | (with_reducible exact Below.refl _ _) | ((with_reducible refine Below.setCell ?_ ?_ _); rotate_left; focus (first | (simp; done) | omega | (simp; omega))) | ((with_reducible refine Below.alloc ?_ ?_ _); rotate_left; focus (first | (simp; done) | omega | (simp; omega))))) hb
  have LL2 := BB2.size
  clear hb
  go_wp2_with fail
  with_reducible refine (step_C s b _ HO ?_ Hr Hb).mono ?_
  focus (refine HT.out.below (show Below w.heap.size w _ from ?_); repeat (first | (with_reducible assumption) | (with_reducible exact Below.refl _ _) | ((with_reducible refine Below.setCell ?_ ?_ _); rotate_left; focus (first | (simp; done) | omega | (simp; omega))) | ((with_reducible refine Below.alloc ?_ ?_ _); rotate_left; focus (first | (simp; done) | omega | (simp; omega)))))
  rintro e w3 ⟨rfl, hb⟩
  have BB3 := bstep (W := w) (by repeat (first | (with_reducible assumption) | (with_reducible exact Below.refl _ _) | ((with_reducible refine Below.setCell ?_ ?_ _); rotate_left; focus (first | (simp; done) | omega | (simp; omega))) | ((with_reducible refine Below.alloc ?_ ?_ _); rotate_left; focus (first | (simp; done) | omega | (simp; omega))))) hb
  have LL3 := BB3.size
  clear hb
  go_wp2_with fail
  go_ret
  exact ⟨rfl, by repeat (first | (with_reducible assumption) | (with_reducible exact Below.refl _ _) | ((with_reducible refine Below.setCell ?_ ?_ _); rotate_left; focus (first | (simp; done) | omega | (simp; omega))) | ((with_reducible refine Below.alloc ?_ ?_ _); rotate_left; focus (first | (simp; done) | omega | (simp; omega))))⟩
/-- The two new states in their variables. -/
def Cls (W : World) (s : St) (a b : Int) (X Y : Nat) (w : World) : Prop := Below W.heap.size W w ∧ RBox w X #[.int .u64 s.a0, .int .u64 s.a1, .int .u64 s.a2, .int .u64 s.a3, .int .u64 s.s0, .int .u64 s.s1, .int .u64 s.s2, .int .u64 s.s3, .int .i64 a] 26 ∧ RBox w Y #[.int .u64 s.a0, .int .u64 s.a1, .int .u64 s.a2, .int .u64 s.a3, .int .u64 s.s0, .int .u64 s.s1, .int .u64 s.s2, .int .u64 s.s3, .int .i64 b] 26
theorem Cls.step {W w w' : World} {s : St} {a b : Int} {X Y : Nat} (h : Cls W s a b X Y w) (hb : Below w.heap.size w w') : Cls W s a b X Y w' := ⟨bstep h.1 hb, h.2.1.step hb, h.2.2.step hb⟩
theorem Cls.drew {W w : World} {s : St} {a b : Int} {X Y : Nat} (h : Cls W s a b X Y w) : Cls W s a b X Y w.drew := ⟨h.1.drew, h.2.1, h.2.2⟩
theorem Cls.all {W w' : World} {s : St} {a b : Int} {X Y : Nat} (h : Cls W s a b X Y w') : Cls W s a b X Y w' ∧ w'.cell? ⟨X, 0, none⟩ = some (.int .u64 s.a0) ∧ w'.cell? ⟨X, 1, none⟩ = some (.int .u64 s.a1) ∧ w'.cell? ⟨X, 2, none⟩ = some (.int .u64 s.a2) ∧ w'.cell? ⟨X, 3, none⟩ = some (.int .u64 s.a3) ∧ w'.cell? ⟨X, 4, none⟩ = some (.int .u64 s.s0) ∧ w'.cell? ⟨X, 5, none⟩ = some (.int .u64 s.s1) ∧ w'.cell? ⟨X, 6, none⟩ = some (.int .u64 s.s2) ∧ w'.cell? ⟨X, 7, none⟩ = some (.int .u64 s.s3) ∧ w'.cell? ⟨X, 8, none⟩ = some (.int .i64 a) ∧ w'.cell? ⟨Y, 0, none⟩ = some (.int .u64 s.a0) ∧ w'.cell? ⟨Y, 1, none⟩ = some (.int .u64 s.a1) ∧ w'.cell? ⟨Y, 2, none⟩ = some (.int .u64 s.a2) ∧ w'.cell? ⟨Y, 3, none⟩ = some (.int .u64 s.a3) ∧ w'.cell? ⟨Y, 4, none⟩ = some (.int .u64 s.s0) ∧ w'.cell? ⟨Y, 5, none⟩ = some (.int .u64 s.s1) ∧ w'.cell? ⟨Y, 6, none⟩ = some (.int .u64 s.s2) ∧ w'.cell? ⟨Y, 7, none⟩ = some (.int .u64 s.s3) ∧ w'.cell? ⟨Y, 8, none⟩ = some (.int .i64 b) := ⟨h, h.2.1.cell 0 _ rfl, h.2.1.cell 1 _ rfl, h.2.1.cell 2 _ rfl, h.2.1.cell 3 _ rfl, h.2.1.cell 4 _ rfl, h.2.1.cell 5 _ rfl, h.2.1.cell 6 _ rfl, h.2.1.cell 7 _ rfl, h.2.1.cell 8 _ rfl, h.2.2.cell 0 _ rfl, h.2.2.cell 1 _ rfl, h.2.2.cell 2 _ rfl, h.2.2.cell 3 _ rfl, h.2.2.cell 4 _ rfl, h.2.2.cell 5 _ rfl, h.2.2.cell 6 _ rfl, h.2.2.cell 7 _ rfl, h.2.2.cell 8 _ rfl⟩
theorem Cls.one {W w : World} {s : St} {a b : Int} {X Y : Nat} (h : Cls W s a b X Y w) : Below W.heap.size W w := h.1
theorem would_Cl {W : World} {s : St} {a b : Int} {X Y : Nat} (c v : Int) (w : World) (HO : Hid s.Ok) (hT : Hid (Tab W)) (hv : Hid (wouldOf s.p s.q c = v)) (hC : Cls W s a b X Y w) :
    Calls Tryd.prog 14 #[.agg #[.int .u64 s.a0, .int .u64 s.a1, .int .u64 s.a2, .int .u64 s.a3, .int .u64 s.s0, .int .u64 s.s1, .int .u64 s.s2, .int .u64 s.s3, .int .i64 c]] w fun e w' => e = .returned (.int .i64 v) ∧ Cls W s a b X Y w' := by
  refine (would_C s c v w HO (hT.out.below hC.1) hv).mono ?_
  rintro e w' ⟨h1, hb⟩
  exact ⟨h1, hC.step hb⟩
set_option linter.unusedSimpArgs false in
set_option maxHeartbeats 4000000 in
set_option maxRecDepth 100000 in
theorem class_none (s : St) (a b : Int) (w : World) (HO : Hid s.Ok) (HT : Hid (Tab w)) (Hr : Hid (s.right = true)) (Ha : Hid (clsB a = true)) (Hb : Hid (clsB b = true)) (hd : decide (b < a) = false) (Hy : Hid (wouldOf s.p s.q b = -1)) :
    Calls Tryd.prog 8 #[.agg #[.int .u64 s.a0, .int .u64 s.a1, .int .u64 s.a2, .int .u64 s.a3, .int .u64 s.s0, .int .u64 s.s1, .int .u64 s.s2, .int .u64 s.s3, .int .i64 s.c], .int .i64 a, .int .i64 b] w fun e w' => e = .returned (.bool true) ∧ Below w.heap.size w w' := by
  go_enter Tryd.func8, Tryd.ntmps8
  go_wp2_with fail
  with_reducible refine (alive2_T _ ?_).mono ?_
  focus (refine HT.out.below (show Below w.heap.size w _ from ?_); repeat (first | (with_reducible assumption) | (with_reducible exact Below.refl _ _) | ((with_reducible refine Below.setCell ?_ ?_ _); rotate_left; focus (first | (simp; done) | omega | (simp; omega))) | ((with_reducible refine Below.alloc ?_ ?_ _); rotate_left; focus (first | (simp; done) | omega | (simp; omega)))))
  rintro e w1 ⟨rfl, hb⟩
  have Z1_0 := bat hb (w.heap.size) (by first | omega | (simp; done) | (simp; omega))
  have ZL1_0 := Z1_0.2.2
  have BB1 := bstep (W := w) (by repeat (first | (with_reducible assumption) | (with_reducible exact Below.refl _ _) | ((with_reducible refine Below.setCell ?_ ?_ _); rotate_left; focus (first | (simp; done) | omega | (simp; omega))) | ((with_reducible refine Below.alloc ?_ ?_ _); rotate_left; focus (first | (simp; done) | omega | (simp; omega))))) hb
  have LL1 := BB1.size
  clear hb
  go_wp2_with fail
  with_reducible refine (step_C s a _ HO ?_ Hr Ha).mono ?_
  focus (refine HT.out.below (show Below w.heap.size w _ from ?_); repeat (first | (with_reducible assumption) | (with_reducible exact Below.refl _ _) | ((with_reducible refine Below.setCell ?_ ?_ _); rotate_left; focus (first | (simp; done) | omega | (simp; omega))) | ((with_reducible refine Below.alloc ?_ ?_ _); rotate_left; focus (first | (simp; done) | omega | (simp; omega)))))
  rintro e w2 ⟨rfl, hb⟩
  have Z2_0 := bat hb (w.heap.size) (by first | omega | (simp; done) | (simp; omega))
  have ZL2_0 := Z2_0.2.2
  have BB2 := bstep (W := w) (by repeat (first | (with_reducible assumption) | (with_reducible exact Below.refl _ _) | ((with_reducible refine Below.setCell ?_ ?_ _); rotate_left; focus (first | (simp; done) | omega | (simp; omega))) | ((with_reducible refine Below.alloc ?_ ?_ _); rotate_left; focus (first | (simp; done) | omega | (simp; omega))))) hb
  have LL2 := BB2.size
  clear hb
  have X2 := rbox_new w2 #[.int .u64 s.a0, .int .u64 s.a1, .int .u64 s.a2, .int .u64 s.a3, .int .u64 s.s0, .int .u64 s.s1, .int .u64 s.s2, .int .u64 s.s3, .int .i64 a] 26
  go_wp2_with fail
  with_reducible refine (step_C s b _ HO ?_ Hr Hb).mono ?_
  focus (refine HT.out.below (show Below w.heap.size w _ from ?_); repeat (first | (with_reducible assumption) | (with_reducible exact Below.refl _ _) | ((with_reducible refine Below.setCell ?_ ?_ _); rotate_left; focus (first | (simp; done) | omega | (simp; omega))) | ((with_reducible refine Below.alloc ?_ ?_ _); rotate_left; focus (first | (simp; done) | omega | (simp; omega)))))
  rintro e w3 ⟨rfl, hb⟩
  have BB3 := bstep (W := w) (by repeat (first | (with_reducible assumption) | (with_reducible exact Below.refl _ _) | ((with_reducible refine Below.setCell ?_ ?_ _); rotate_left; focus (first | (simp; done) | omega | (simp; omega))) | ((with_reducible refine Below.alloc ?_ ?_ _); rotate_left; focus (first | (simp; done) | omega | (simp; omega))))) hb
  have LL3 := BB3.size
  have X3 := RBox.step X2 hb
  clear hb X2
  have C4 : Cls w s a b w2.heap.size w3.heap.size (w3.alloc (.cells #[.int .u64 s.a0, .int .u64 s.a1, .int .u64 s.a2, .int .u64 s.a3, .int .u64 s.s0, .int .u64 s.s1, .int .u64 s.s2, .int .u64 s.s3, .int .i64 b] 26)) := ⟨by repeat (first | (with_reducible assumption) | (with_reducible exact Below.refl _ _) | ((with_reducible refine Below.setCell ?_ ?_ _); rotate_left; focus (first | (simp; done) | omega | (simp; omega))) | ((with_reducible refine Below.alloc ?_ ?_ _); rotate_left; focus (first | (simp; done) | omega | (simp; omega)))), X3.alloc _, rbox_new _ _ _⟩
  go_upto_region 7 with fail
  have C4d := C4.drew
  refine wp_region_noPanic ?_
  refine wp_region_held_drew (S := fun w' => Cls w s a b w2.heap.size w3.heap.size w' ∧ w'.cell? ⟨w2.heap.size, 0, none⟩ = some (.int .u64 s.a0) ∧ w'.cell? ⟨w2.heap.size, 1, none⟩ = some (.int .u64 s.a1) ∧ w'.cell? ⟨w2.heap.size, 2, none⟩ = some (.int .u64 s.a2) ∧ w'.cell? ⟨w2.heap.size, 3, none⟩ = some (.int .u64 s.a3) ∧ w'.cell? ⟨w2.heap.size, 4, none⟩ = some (.int .u64 s.s0) ∧ w'.cell? ⟨w2.heap.size, 5, none⟩ = some (.int .u64 s.s1) ∧ w'.cell? ⟨w2.heap.size, 6, none⟩ = some (.int .u64 s.s2) ∧ w'.cell? ⟨w2.heap.size, 7, none⟩ = some (.int .u64 s.s3) ∧ w'.cell? ⟨w2.heap.size, 8, none⟩ = some (.int .i64 a) ∧ w'.cell? ⟨w3.heap.size, 0, none⟩ = some (.int .u64 s.a0) ∧ w'.cell? ⟨w3.heap.size, 1, none⟩ = some (.int .u64 s.a1) ∧ w'.cell? ⟨w3.heap.size, 2, none⟩ = some (.int .u64 s.a2) ∧ w'.cell? ⟨w3.heap.size, 3, none⟩ = some (.int .u64 s.a3) ∧ w'.cell? ⟨w3.heap.size, 4, none⟩ = some (.int .u64 s.s0) ∧ w'.cell? ⟨w3.heap.size, 5, none⟩ = some (.int .u64 s.s1) ∧ w'.cell? ⟨w3.heap.size, 6, none⟩ = some (.int .u64 s.s2) ∧ w'.cell? ⟨w3.heap.size, 7, none⟩ = some (.int .u64 s.s3) ∧ w'.cell? ⟨w3.heap.size, 8, none⟩ = some (.int .i64 b)) (by kernel_rfl) (Cls.all C4d) (fun hHeld => ?_)
  refine wpAnyH_take (i := 0) (v := ?_) rfl (by kernel_rfl) (by kernel_rfl) (by kernel_rfl) (fun _ _ _ h => h) (Or.inl ⟨by rfl, ?_⟩) (by assumption) ?_
  rotate_left
  · (intro w hSw; (try dsimp only at hSw); go_simp; try with_reducible rfl)
  simp only [List.getElem_toArray, List.getElem_cons_zero, List.getElem_cons_succ, Act.put, List.setIfInBounds_toArray, List.set_cons_zero, List.set_cons_succ]
  refine wpAnyH_ready (rs := [1]) (by kernel_rfl) (by simp) ?_
  refine AllReadyH.cons rfl (fun K hK => ?_) AllReadyH.nil
  go_simp
  first
    | (go_at_call 14; (with_reducible refine (would_Cl (W := w) (s := s) (a := a) (b := b) (X := w2.heap.size) (Y := w3.heap.size) b (-1) _ HO HT Hy (by with_reducible assumption)).mono ?_); rintro e w5 ⟨rfl, TT⟩)
  go_wp2_with fail
  refine hK.out _ _ (Cls.all (by with_reducible assumption)) (fun hHeld => ?_)
  refine wpAnyH_take (i := 2) (v := ?_) rfl (by kernel_rfl) (by kernel_rfl) (by kernel_rfl) (fun _ _ _ h => h) (Or.inl ⟨by rfl, ?_⟩) (by assumption) ?_
  rotate_left
  · (intro w hSw; (try dsimp only at hSw); go_simp; try with_reducible rfl)
  simp only [List.getElem_toArray, List.getElem_cons_zero, List.getElem_cons_succ, Act.put, List.setIfInBounds_toArray, List.set_cons_zero, List.set_cons_succ]
  refine wpAnyH_take (i := 3) (v := ?_) rfl (by kernel_rfl) (by kernel_rfl) (by kernel_rfl) (fun _ _ _ h => h) (Or.inl ⟨by rfl, ?_⟩) (by assumption) ?_
  rotate_left
  · (intro w hSw; (try dsimp only at hSw); go_simp; try with_reducible rfl)
  simp only [List.getElem_toArray, List.getElem_cons_zero, List.getElem_cons_succ, Act.put, List.setIfInBounds_toArray, List.set_cons_zero, List.set_cons_succ]
  refine wpAnyH_take (i := 4) (v := undef) rfl (by kernel_rfl) (by kernel_rfl) (by kernel_rfl) (fun _ _ _ h => h) (Or.inr ⟨by rfl, rfl⟩) (by assumption) ?_
  simp only [List.getElem_toArray, List.getElem_cons_zero, List.getElem_cons_succ, Act.put, List.setIfInBounds_toArray, List.set_cons_zero, List.set_cons_succ]
  refine wpAnyH_take (i := 5) (v := undef) rfl (by kernel_rfl) (by kernel_rfl) (by kernel_rfl) (fun _ _ _ h => h) (Or.inr ⟨by rfl, rfl⟩) (by assumption) ?_
  simp only [List.getElem_toArray, List.getElem_cons_zero, List.getElem_cons_succ, Act.put, List.setIfInBounds_toArray, List.set_cons_zero, List.set_cons_succ]
  refine wpAnyH_take (i := 6) (v := undef) rfl (by kernel_rfl) (by kernel_rfl) (by kernel_rfl) (fun _ _ _ h => h) (Or.inr ⟨by rfl, rfl⟩) (by assumption) ?_
  simp only [List.getElem_toArray, List.getElem_cons_zero, List.getElem_cons_succ, Act.put, List.setIfInBounds_toArray, List.set_cons_zero, List.set_cons_succ]
  refine wpAnyH_take (i := 7) (v := undef) rfl (by kernel_rfl) (by kernel_rfl) (by kernel_rfl) (fun _ _ _ h => h) (Or.inr ⟨by rfl, rfl⟩) (by assumption) ?_
  simp only [List.getElem_toArray, List.getElem_cons_zero, List.getElem_cons_succ, Act.put, List.setIfInBounds_toArray, List.set_cons_zero, List.set_cons_succ]
  refine wpAnyH_take (i := 8) (v := undef) rfl (by kernel_rfl) (by kernel_rfl) (by kernel_rfl) (fun _ _ _ h => h) (Or.inr ⟨by rfl, rfl⟩) (by assumption) ?_
  simp only [List.getElem_toArray, List.getElem_cons_zero, List.getElem_cons_succ, Act.put, List.setIfInBounds_toArray, List.set_cons_zero, List.set_cons_succ]
  refine wpAnyH_take (i := 9) (v := ?_) rfl (by kernel_rfl) (by kernel_rfl) (by kernel_rfl) (fun _ _ _ h => h) (Or.inl ⟨by rfl, ?_⟩) (by assumption) ?_
  rotate_left
  · (intro w hSw; (try dsimp only at hSw); go_simp; try with_reducible rfl)
  simp only [List.getElem_toArray, List.getElem_cons_zero, List.getElem_cons_succ, Act.put, List.setIfInBounds_toArray, List.set_cons_zero, List.set_cons_succ]
  refine wpAnyH_take (i := 10) (v := ?_) rfl (by kernel_rfl) (by kernel_rfl) (by kernel_rfl) (fun _ _ _ h => h) (Or.inl ⟨by rfl, ?_⟩) (by assumption) ?_
  rotate_left
  · (intro w hSw; (try dsimp only at hSw); go_simp; try with_reducible rfl)
  simp only [List.getElem_toArray, List.getElem_cons_zero, List.getElem_cons_succ, Act.put, List.setIfInBounds_toArray, List.set_cons_zero, List.set_cons_succ]
  refine wpAnyH_done (by kernel_rfl) ?_ _
  refine NoPanic.normal ?_

  go_wp2_with fail
  go_ret
  exact ⟨rfl, (by assumption : Cls w s a b w2.heap.size w3.heap.size _).1⟩
set_option maxHeartbeats 4000000 in
set_option maxRecDepth 100000 in
theorem class_some (s : St) (v : Int) (a b : Int) (w : World) (HO : Hid s.Ok) (HT : Hid (Tab w)) (Hr : Hid (s.right = true)) (Ha : Hid (clsB a = true)) (Hb : Hid (clsB b = true)) (hd : decide (b < a) = false) (hv : (v == -1) = false) (Hy : Hid (wouldOf s.p s.q b = v)) (Hx : Hid (wouldOf s.p s.q a = v)) :
    Calls Tryd.prog 8 #[.agg #[.int .u64 s.a0, .int .u64 s.a1, .int .u64 s.a2, .int .u64 s.a3, .int .u64 s.s0, .int .u64 s.s1, .int .u64 s.s2, .int .u64 s.s3, .int .i64 s.c], .int .i64 a, .int .i64 b] w fun e w' => e = .returned (.bool true) ∧ Below w.heap.size w w' := by
  go_enter Tryd.func8, Tryd.ntmps8
  go_wp2_with fail
  with_reducible refine (alive2_T _ ?_).mono ?_
  focus (refine HT.out.below (show Below w.heap.size w _ from ?_); repeat (first | (with_reducible assumption) | (with_reducible exact Below.refl _ _) | ((with_reducible refine Below.setCell ?_ ?_ _); rotate_left; focus (first | (simp; done) | omega | (simp; omega))) | ((with_reducible refine Below.alloc ?_ ?_ _); rotate_left; focus (first | (simp; done) | omega | (simp; omega)))))
  rintro e w1 ⟨rfl, hb⟩
  have Z1_0 := bat hb (w.heap.size) (by first | omega | (simp; done) | (simp; omega))
  have ZL1_0 := Z1_0.2.2
  have BB1 := bstep (W := w) (by repeat (first | (with_reducible assumption) | (with_reducible exact Below.refl _ _) | ((with_reducible refine Below.setCell ?_ ?_ _); rotate_left; focus (first | (simp; done) | omega | (simp; omega))) | ((with_reducible refine Below.alloc ?_ ?_ _); rotate_left; focus (first | (simp; done) | omega | (simp; omega))))) hb
  have LL1 := BB1.size
  clear hb
  go_wp2_with fail
  with_reducible refine (step_C s a _ HO ?_ Hr Ha).mono ?_
  focus (refine HT.out.below (show Below w.heap.size w _ from ?_); repeat (first | (with_reducible assumption) | (with_reducible exact Below.refl _ _) | ((with_reducible refine Below.setCell ?_ ?_ _); rotate_left; focus (first | (simp; done) | omega | (simp; omega))) | ((with_reducible refine Below.alloc ?_ ?_ _); rotate_left; focus (first | (simp; done) | omega | (simp; omega)))))
  rintro e w2 ⟨rfl, hb⟩
  have Z2_0 := bat hb (w.heap.size) (by first | omega | (simp; done) | (simp; omega))
  have ZL2_0 := Z2_0.2.2
  have BB2 := bstep (W := w) (by repeat (first | (with_reducible assumption) | (with_reducible exact Below.refl _ _) | ((with_reducible refine Below.setCell ?_ ?_ _); rotate_left; focus (first | (simp; done) | omega | (simp; omega))) | ((with_reducible refine Below.alloc ?_ ?_ _); rotate_left; focus (first | (simp; done) | omega | (simp; omega))))) hb
  have LL2 := BB2.size
  clear hb
  have X2 := rbox_new w2 #[.int .u64 s.a0, .int .u64 s.a1, .int .u64 s.a2, .int .u64 s.a3, .int .u64 s.s0, .int .u64 s.s1, .int .u64 s.s2, .int .u64 s.s3, .int .i64 a] 26
  go_wp2_with fail
  with_reducible refine (step_C s b _ HO ?_ Hr Hb).mono ?_
  focus (refine HT.out.below (show Below w.heap.size w _ from ?_); repeat (first | (with_reducible assumption) | (with_reducible exact Below.refl _ _) | ((with_reducible refine Below.setCell ?_ ?_ _); rotate_left; focus (first | (simp; done) | omega | (simp; omega))) | ((with_reducible refine Below.alloc ?_ ?_ _); rotate_left; focus (first | (simp; done) | omega | (simp; omega)))))
  rintro e w3 ⟨rfl, hb⟩
  have BB3 := bstep (W := w) (by repeat (first | (with_reducible assumption) | (with_reducible exact Below.refl _ _) | ((with_reducible refine Below.setCell ?_ ?_ _); rotate_left; focus (first | (simp; done) | omega | (simp; omega))) | ((with_reducible refine Below.alloc ?_ ?_ _); rotate_left; focus (first | (simp; done) | omega | (simp; omega))))) hb
  have LL3 := BB3.size
  have X3 := RBox.step X2 hb
  clear hb X2
  have C4 : Cls w s a b w2.heap.size w3.heap.size (w3.alloc (.cells #[.int .u64 s.a0, .int .u64 s.a1, .int .u64 s.a2, .int .u64 s.a3, .int .u64 s.s0, .int .u64 s.s1, .int .u64 s.s2, .int .u64 s.s3, .int .i64 b] 26)) := ⟨by repeat (first | (with_reducible assumption) | (with_reducible exact Below.refl _ _) | ((with_reducible refine Below.setCell ?_ ?_ _); rotate_left; focus (first | (simp; done) | omega | (simp; omega))) | ((with_reducible refine Below.alloc ?_ ?_ _); rotate_left; focus (first | (simp; done) | omega | (simp; omega)))), X3.alloc _, rbox_new _ _ _⟩
  go_upto_region 7 with fail
  have C4d := C4.drew
  go_region_held3 (fun w' => Cls w s a b w2.heap.size w3.heap.size w' ∧ w'.cell? ⟨w2.heap.size, 0, none⟩ = some (.int .u64 s.a0) ∧ w'.cell? ⟨w2.heap.size, 1, none⟩ = some (.int .u64 s.a1) ∧ w'.cell? ⟨w2.heap.size, 2, none⟩ = some (.int .u64 s.a2) ∧ w'.cell? ⟨w2.heap.size, 3, none⟩ = some (.int .u64 s.a3) ∧ w'.cell? ⟨w2.heap.size, 4, none⟩ = some (.int .u64 s.s0) ∧ w'.cell? ⟨w2.heap.size, 5, none⟩ = some (.int .u64 s.s1) ∧ w'.cell? ⟨w2.heap.size, 6, none⟩ = some (.int .u64 s.s2) ∧ w'.cell? ⟨w2.heap.size, 7, none⟩ = some (.int .u64 s.s3) ∧ w'.cell? ⟨w2.heap.size, 8, none⟩ = some (.int .i64 a) ∧ w'.cell? ⟨w3.heap.size, 0, none⟩ = some (.int .u64 s.a0) ∧ w'.cell? ⟨w3.heap.size, 1, none⟩ = some (.int .u64 s.a1) ∧ w'.cell? ⟨w3.heap.size, 2, none⟩ = some (.int .u64 s.a2) ∧ w'.cell? ⟨w3.heap.size, 3, none⟩ = some (.int .u64 s.a3) ∧ w'.cell? ⟨w3.heap.size, 4, none⟩ = some (.int .u64 s.s0) ∧ w'.cell? ⟨w3.heap.size, 5, none⟩ = some (.int .u64 s.s1) ∧ w'.cell? ⟨w3.heap.size, 6, none⟩ = some (.int .u64 s.s2) ∧ w'.cell? ⟨w3.heap.size, 7, none⟩ = some (.int .u64 s.s3) ∧ w'.cell? ⟨w3.heap.size, 8, none⟩ = some (.int .i64 b))
    ((refine Cls.all ?_; with_reducible assumption))
    (first
      | (go_at_call 14; (with_reducible refine (would_Cl (W := w) (s := s) (a := a) (b := b) (X := w2.heap.size) (Y := w3.heap.size) b v _ HO HT Hy (by with_reducible assumption)).mono ?_); rintro e w5 ⟨rfl, TT⟩)
      | (go_at_call 14; (with_reducible refine (would_Cl (W := w) (s := s) (a := a) (b := b) (X := w2.heap.size) (Y := w3.heap.size) a v _ HO HT Hx (by with_reducible assumption)).mono ?_); rintro e w5 ⟨rfl, TT⟩))
  all_goals go_wp2_with fail
  all_goals go_ret
  all_goals exact ⟨rfl, (by assumption : Cls w s a b w2.heap.size w3.heap.size _).1⟩
theorem step4 {s r : St} {n v : Int} (h : stepOf s 4 n = (r, v, 0)) : s.right = true ∧ clsB n = true := by
  obtain ⟨hr, h1⟩ := step_inv h
  refine ⟨hr, ?_⟩
  rcases h1 with ⟨h, _⟩ | ⟨h, _⟩ | ⟨h, _⟩ | ⟨_, h, _⟩
  · omega
  · omega
  · omega
  · exact h
theorem would_mono {s : St} {a b : Int} (hab : a ≤ b) (ha : clsB a = true) (h : wouldOf s.p s.q b ≠ -1) : wouldOf s.p s.q a = wouldOf s.p s.q b := by
  have ha' := (clsB_iff a).1 ha
  unfold wouldOf at h ⊢
  split at h
  · rename_i hc
    obtain ⟨h1, h2, h3, h4⟩ := hc
    have h5 : rightB s.p s.q a = true := by
      rw [rightB_iff] at h1 ⊢
      exact ⟨ha', h1.2⟩
    rw [if_pos (show _ ∧ _ from ⟨h5, h2, by omega, h4⟩), if_pos ⟨h1, h2, h3, h4⟩]
  · exact (h rfl).elim
theorem apicClass_walk (s : St) (a b : Int) (w : World) (h : s.Ok) (hT : Tab w) :
    Calls Tryd.prog 8 #[.agg #[.int .u64 s.a0, .int .u64 s.a1, .int .u64 s.a2, .int .u64 s.a3, .int .u64 s.s0, .int .u64 s.s1, .int .u64 s.s2, .int .u64 s.s3, .int .i64 s.c], .int .i64 a, .int .i64 b] w fun e w' => e = .returned (.bool true) ∧ Below w.heap.size w w' := by
  rcases step_split s 4 a with ⟨x, hx, H⟩ | ⟨r, v, H⟩
  · exact class_e s _ x _ _ a b w h hT H (by simpa using hx) (show stepOf s 4 b = ((stepOf s 4 b).1, (stepOf s 4 b).2.1, (stepOf s 4 b).2.2) from rfl)
  · obtain ⟨hr, ha⟩ := step4 H
    rcases step_split s 4 b with ⟨x, hx, H2⟩ | ⟨r2, v2, H2⟩
    · exact class_f s x a b w h hT hr ha H2 (by simpa using hx)
    · obtain ⟨_, hb⟩ := step4 H2
      by_cases hab : b < a
      · exact class_gt s a b w h hT hr ha hb hab
      · by_cases hv : wouldOf s.p s.q b = -1
        · exact class_none s a b w h hT hr ha hb (decide_eq_false hab) hv
        · exact class_some s _ a b w h hT hr ha hb (decide_eq_false hab) (by simpa using hv) rfl (would_mono (by omega) ha hv)
end Go.Proofs.YtgddbmbljlngnaaDoor
