/- The walk of corebelllaw.ApicTells: it returns true at every input. -/
import Derived.Test.YtgddbmbljlngnaaDoorRefG
import Derived.Test.YtgddbmbljlngnaaDoorRefH
namespace Go.Proofs.YtgddbmbljlngnaaDoor
open Go.RowKit

theorem setw_up {i x : Nat} {n : Int} (h0 : 0 ≤ n) (h1 : n < 256) : setw i n true x = up i n.toNat x := by
  unfold setw
  rw [if_pos ⟨h0, h1⟩, if_pos rfl]
theorem setw_dn {i x : Nat} {n : Int} (h0 : 0 ≤ n) (h1 : n < 256) : setw i n false x = dn i n.toNat x := by
  unfold setw
  rw [if_pos ⟨h0, h1⟩, if_neg (by decide)]
theorem bstep_R (s r : St) (k n v x : Int) (w : World) (HO : Hid s.Ok) (H : Hid (stepOf s k n = (r, v, x))) :
    Calls Tryd.prog 11 #[.agg #[.int .u64 s.a0, .int .u64 s.a1, .int .u64 s.a2, .int .u64 s.a3, .int .u64 s.s0, .int .u64 s.s1, .int .u64 s.s2, .int .u64 s.s3, .int .i64 s.c], .agg #[.int .i64 k, .int .i64 n]] w fun e w' => e = .returned (.tuple #[.agg #[.int .u64 r.a0, .int .u64 r.a1, .int .u64 r.a2, .int .u64 r.a3, .int .u64 r.s0, .int .u64 r.s1, .int .u64 r.s2, .int .u64 r.s3, .int .i64 r.c], .int .i64 v, .int .i64 x]) ∧ Below w.heap.size w w' := by
  have H' := H.out
  unfold stepOf at H'
  split at H'
  · rename_i h
    simp only [Prod.mk.injEq] at H'
    obtain ⟨rfl, rfl, rfl⟩ := H'
    exact bs_form s k n w HO h
  rename_i h0
  have h : Hid (s.right = true) := show s.right = true by simpa using h0
  split at H'
  · rename_i hk
    subst hk
    split at H'
    · rename_i hn
      simp only [Prod.mk.injEq] at H'
      obtain ⟨rfl, rfl, rfl⟩ := H'
      by_cases h1 : n < 32
      · exact bs_asklow s n w HO h h1
      · exact bs_askhigh s n w HO h (decide_eq_false h1) (by omega)
    · rename_i hn
      simp only [Prod.mk.injEq] at H'
      obtain ⟨rfl, rfl, rfl⟩ := H'
      exact bs_ask s _ n w HO h HO.out.1 (decide_eq_false (by omega)) (decide_eq_false (by omega)) rfl ⟨setw_up (by omega) (by omega), setw_up (by omega) (by omega), setw_up (by omega) (by omega), setw_up (by omega) (by omega)⟩
  rename_i k1
  split at H'
  · rename_i hk
    subst hk
    have hl := would_lt s
    split at H'
    · rename_i hn
      simp only [Prod.mk.injEq] at H'
      obtain ⟨rfl, rfl, rfl⟩ := H'
      exact bs_takenone s ⟨_, _, _, _, _, _, _, _, 0⟩ n _ w HO h HO.out.1 HO.out.2 rfl ⟨rfl, rfl, rfl, rfl⟩ ⟨rfl, rfl, rfl, rfl⟩ hn
    · rename_i hn
      simp only [Prod.mk.injEq] at H'
      obtain ⟨rfl, rfl, rfl⟩ := H'
      exact bs_take s _ n _ w HO h HO.out.1 HO.out.2 rfl ⟨setw_dn (by omega) (by omega), setw_dn (by omega) (by omega), setw_dn (by omega) (by omega), setw_dn (by omega) (by omega)⟩ ⟨setw_up (by omega) (by omega), setw_up (by omega) (by omega), setw_up (by omega) (by omega), setw_up (by omega) (by omega)⟩ (decide_eq_false hn) rfl
  rename_i k2
  split at H'
  · rename_i hk
    subst hk
    have hl := topOf_lt s.q
    split at H'
    · rename_i hn
      simp only [Prod.mk.injEq] at H'
      obtain ⟨rfl, rfl, rfl⟩ := H'
      exact bs_endnone s ⟨0, 0, 0, 0, _, _, _, _, 0⟩ n _ w HO h HO.out.2 rfl ⟨rfl, rfl, rfl, rfl⟩ hn
    · rename_i hn
      simp only [Prod.mk.injEq] at H'
      obtain ⟨rfl, rfl, rfl⟩ := H'
      exact bs_end s _ n _ w HO h HO.out.2 rfl ⟨setw_dn (by omega) (by omega), setw_dn (by omega) (by omega), setw_dn (by omega) (by omega), setw_dn (by omega) (by omega)⟩ (decide_eq_false hn) rfl
  rename_i k3
  split at H'
  · rename_i hk
    subst hk
    split at H'
    · rename_i hn
      simp only [Prod.mk.injEq] at H'
      obtain ⟨rfl, rfl, rfl⟩ := H'
      have hn' : ¬ (0 ≤ n ∧ n < 16) := by rw [← clsB_iff, hn]; decide
      by_cases h1 : n < 0
      · exact bs_clslow s n w HO h h1
      · exact bs_clshigh s n w HO h (decide_eq_false h1) (by omega)
    · rename_i hn
      simp only [Prod.mk.injEq] at H'
      obtain ⟨rfl, rfl, rfl⟩ := H'
      have hn' := (clsB_iff n).1 (by simpa using hn)
      exact bs_cls s n w HO h (decide_eq_false (by omega)) (decide_eq_false (by omega))
  rename_i k4
  simp only [Prod.mk.injEq] at H'
  obtain ⟨rfl, rfl, rfl⟩ := H'
  exact bs_kind s k n w HO h (by simpa using k1) (by simpa using k2) (by simpa using k3) (by simpa using k4)

/-- The state, and the two new states, in their variables. -/
def Tel (W : World) (s r : St) (X Y : Nat) (w : World) : Prop := Below W.heap.size W w ∧ RBox w W.heap.size #[.int .u64 s.a0, .int .u64 s.a1, .int .u64 s.a2, .int .u64 s.a3, .int .u64 s.s0, .int .u64 s.s1, .int .u64 s.s2, .int .u64 s.s3, .int .i64 s.c] 26 ∧ RBox w X #[.int .u64 r.a0, .int .u64 r.a1, .int .u64 r.a2, .int .u64 r.a3, .int .u64 r.s0, .int .u64 r.s1, .int .u64 r.s2, .int .u64 r.s3, .int .i64 r.c] 26 ∧ RBox w Y #[.int .u64 r.a0, .int .u64 r.a1, .int .u64 r.a2, .int .u64 r.a3, .int .u64 r.s0, .int .u64 r.s1, .int .u64 r.s2, .int .u64 r.s3, .int .i64 r.c] 26
theorem Tel.step {W w w' : World} {s r : St} {X Y : Nat} (h : Tel W s r X Y w) (hb : Below w.heap.size w w') : Tel W s r X Y w' := ⟨bstep h.1 hb, h.2.1.step hb, h.2.2.1.step hb, h.2.2.2.step hb⟩
theorem Tel.drew {W w : World} {s r : St} {X Y : Nat} (h : Tel W s r X Y w) : Tel W s r X Y w.drew := ⟨h.1.drew, h.2.1, h.2.2.1, h.2.2.2⟩
theorem Tel.all {W w' : World} {s r : St} {X Y : Nat} (h : Tel W s r X Y w') : Tel W s r X Y w' ∧ w'.cell? ⟨W.heap.size, 0, none⟩ = some (.int .u64 s.a0) ∧ w'.cell? ⟨W.heap.size, 1, none⟩ = some (.int .u64 s.a1) ∧ w'.cell? ⟨W.heap.size, 2, none⟩ = some (.int .u64 s.a2) ∧ w'.cell? ⟨W.heap.size, 3, none⟩ = some (.int .u64 s.a3) ∧ w'.cell? ⟨W.heap.size, 4, none⟩ = some (.int .u64 s.s0) ∧ w'.cell? ⟨W.heap.size, 5, none⟩ = some (.int .u64 s.s1) ∧ w'.cell? ⟨W.heap.size, 6, none⟩ = some (.int .u64 s.s2) ∧ w'.cell? ⟨W.heap.size, 7, none⟩ = some (.int .u64 s.s3) ∧ w'.cell? ⟨W.heap.size, 8, none⟩ = some (.int .i64 s.c) ∧ w'.cell? ⟨X, 0, none⟩ = some (.int .u64 r.a0) ∧ w'.cell? ⟨X, 1, none⟩ = some (.int .u64 r.a1) ∧ w'.cell? ⟨X, 2, none⟩ = some (.int .u64 r.a2) ∧ w'.cell? ⟨X, 3, none⟩ = some (.int .u64 r.a3) ∧ w'.cell? ⟨X, 4, none⟩ = some (.int .u64 r.s0) ∧ w'.cell? ⟨X, 5, none⟩ = some (.int .u64 r.s1) ∧ w'.cell? ⟨X, 6, none⟩ = some (.int .u64 r.s2) ∧ w'.cell? ⟨X, 7, none⟩ = some (.int .u64 r.s3) ∧ w'.cell? ⟨X, 8, none⟩ = some (.int .i64 r.c) ∧ w'.cell? ⟨Y, 0, none⟩ = some (.int .u64 r.a0) ∧ w'.cell? ⟨Y, 1, none⟩ = some (.int .u64 r.a1) ∧ w'.cell? ⟨Y, 2, none⟩ = some (.int .u64 r.a2) ∧ w'.cell? ⟨Y, 3, none⟩ = some (.int .u64 r.a3) ∧ w'.cell? ⟨Y, 4, none⟩ = some (.int .u64 r.s0) ∧ w'.cell? ⟨Y, 5, none⟩ = some (.int .u64 r.s1) ∧ w'.cell? ⟨Y, 6, none⟩ = some (.int .u64 r.s2) ∧ w'.cell? ⟨Y, 7, none⟩ = some (.int .u64 r.s3) ∧ w'.cell? ⟨Y, 8, none⟩ = some (.int .i64 r.c) := ⟨h, h.2.1.cell 0 _ rfl, h.2.1.cell 1 _ rfl, h.2.1.cell 2 _ rfl, h.2.1.cell 3 _ rfl, h.2.1.cell 4 _ rfl, h.2.1.cell 5 _ rfl, h.2.1.cell 6 _ rfl, h.2.1.cell 7 _ rfl, h.2.1.cell 8 _ rfl, h.2.2.1.cell 0 _ rfl, h.2.2.1.cell 1 _ rfl, h.2.2.1.cell 2 _ rfl, h.2.2.1.cell 3 _ rfl, h.2.2.1.cell 4 _ rfl, h.2.2.1.cell 5 _ rfl, h.2.2.1.cell 6 _ rfl, h.2.2.1.cell 7 _ rfl, h.2.2.1.cell 8 _ rfl, h.2.2.2.cell 0 _ rfl, h.2.2.2.cell 1 _ rfl, h.2.2.2.cell 2 _ rfl, h.2.2.2.cell 3 _ rfl, h.2.2.2.cell 4 _ rfl, h.2.2.2.cell 5 _ rfl, h.2.2.2.cell 6 _ rfl, h.2.2.2.cell 7 _ rfl, h.2.2.2.cell 8 _ rfl⟩
theorem tel_right {W : World} {s r : St} {X Y : Nat} (t : Bool) (w : World) (HO : Hid s.Ok) (hT : Hid (Tab W)) (ht : Hid (s.right = t)) (h : Tel W s r X Y w) :
    Calls Tryd.prog 12 #[.agg #[.int .u64 s.a0, .int .u64 s.a1, .int .u64 s.a2, .int .u64 s.a3, .int .u64 s.s0, .int .u64 s.s1, .int .u64 s.s2, .int .u64 s.s3, .int .i64 s.c]] w fun e w' => e = .returned (.bool t) ∧ Tel W s r X Y w' :=
  (right_R s t w HO (hT.out.below h.1) ht).mono fun _ _ ⟨h1, hb⟩ => ⟨h1, h.step hb⟩
theorem tel_would {W : World} {s r : St} {X Y : Nat} (v : Int) (w : World) (HO : Hid s.Ok) (hT : Hid (Tab W)) (hv : Hid (s.would = v)) (h : Tel W s r X Y w) :
    Calls Tryd.prog 14 #[.agg #[.int .u64 s.a0, .int .u64 s.a1, .int .u64 s.a2, .int .u64 s.a3, .int .u64 s.s0, .int .u64 s.s1, .int .u64 s.s2, .int .u64 s.s3, .int .i64 s.c]] w fun e w' => e = .returned (.int .i64 v) ∧ Tel W s r X Y w' :=
  (would_R s v w HO (hT.out.below h.1) hv).mono fun _ _ ⟨h1, hb⟩ => ⟨h1, h.step hb⟩
theorem tel_bright {W : World} {s r : St} {X Y : Nat} (t : Bool) (w : World) (HO : Hid s.Ok) (ht : Hid (s.right = t)) (h : Tel W s r X Y w) :
    Calls Tryd.prog 13 #[.agg #[.int .u64 s.a0, .int .u64 s.a1, .int .u64 s.a2, .int .u64 s.a3, .int .u64 s.s0, .int .u64 s.s1, .int .u64 s.s2, .int .u64 s.s3, .int .i64 s.c]] w fun e w' => e = .returned (.bool t) ∧ Tel W s r X Y w' :=
  (bright_R s t w HO ht).mono fun _ _ ⟨h1, hb⟩ => ⟨h1, h.step hb⟩
theorem tel_bwould {W : World} {s r : St} {X Y : Nat} (v : Int) (w : World) (HO : Hid s.Ok) (hv : Hid (s.would = v)) (h : Tel W s r X Y w) :
    Calls Tryd.prog 15 #[.agg #[.int .u64 s.a0, .int .u64 s.a1, .int .u64 s.a2, .int .u64 s.a3, .int .u64 s.s0, .int .u64 s.s1, .int .u64 s.s2, .int .u64 s.s3, .int .i64 s.c]] w fun e w' => e = .returned (.int .i64 v) ∧ Tel W s r X Y w' :=
  (bwould_R s v w HO hv).mono fun _ _ ⟨h1, hb⟩ => ⟨h1, h.step hb⟩

set_option maxHeartbeats 16000000 in
set_option maxRecDepth 100000 in
theorem tells_core (s r : St) (k n v x u : Int) (t : Bool) (w : World) (HO : Hid s.Ok) (HT : Hid (Tab w)) (H : Hid (stepOf s k n = (r, v, x))) (Ht : Hid (s.right = t)) (Hu : Hid (s.would = u)) :
    Calls Tryd.prog 3 #[.agg #[.int .u64 s.a0, .int .u64 s.a1, .int .u64 s.a2, .int .u64 s.a3, .int .u64 s.s0, .int .u64 s.s1, .int .u64 s.s2, .int .u64 s.s3, .int .i64 s.c], .agg #[.int .i64 k, .int .i64 n]] w fun e w' => e = .returned (.bool true) ∧ Below w.heap.size w w' := by
  have heq : ∀ (x0 x1 x2 x3 x4 x5 x6 x7 x8 : Int) (w : World), (Op.equalIn 10000 26 (.agg #[.int .u64 x0, .int .u64 x1, .int .u64 x2, .int .u64 x3, .int .u64 x4, .int .u64 x5, .int .u64 x6, .int .u64 x7, .int .i64 x8]) (.agg #[.int .u64 x0, .int .u64 x1, .int .u64 x2, .int .u64 x3, .int .u64 x4, .int .u64 x5, .int .u64 x6, .int .u64 x7, .int .i64 x8])).run Tryd.prog w = .ok true w := eq_local
  go_enter Tryd.func3, Tryd.ntmps3
  go_wp2_with fail
  with_reducible refine (step_R s r k n v x _ HO ?_ H).mono ?_
  focus (refine HT.out.below (show Below w.heap.size w _ from ?_); repeat (first | (with_reducible assumption) | (with_reducible exact Below.refl _ _) | ((with_reducible refine Below.setCell ?_ ?_ _); rotate_left; focus (first | (simp; done) | omega | (simp; omega))) | ((with_reducible refine Below.alloc ?_ ?_ _); rotate_left; focus (first | (simp; done) | omega | (simp; omega)))))
  rintro e w1 ⟨rfl, hb⟩
  have Z0 := bat hb (w.heap.size) (by first | omega | (simp; done) | (simp; omega))
  have Z1 := bat hb (w.heap.size + 1) (by first | omega | (simp; done) | (simp; omega))
  have L0 := Z0.2.2
  have L1 := Z1.2.2
  have BB1 := bstep (W := w) (by repeat (first | (with_reducible assumption) | (with_reducible exact Below.refl _ _) | ((with_reducible refine Below.setCell ?_ ?_ _); rotate_left; focus (first | (simp; done) | omega | (simp; omega))) | ((with_reducible refine Below.alloc ?_ ?_ _); rotate_left; focus (first | (simp; done) | omega | (simp; omega))))) hb
  have R1 := RBox.step (RBox.alloc (rbox_new w #[.int .u64 s.a0, .int .u64 s.a1, .int .u64 s.a2, .int .u64 s.a3, .int .u64 s.s0, .int .u64 s.s1, .int .u64 s.s2, .int .u64 s.s3, .int .i64 s.c] 26) _) hb
  clear hb
  go_wp2_with fail
  with_reducible refine (bstep_R s r k n v x _ HO H).mono ?_
  rintro e w2 ⟨rfl, hb⟩
  have BB2 := bstep (W := w) (by repeat (first | (with_reducible assumption) | (with_reducible exact Below.refl _ _) | ((with_reducible refine Below.setCell ?_ ?_ _); rotate_left; focus (first | (simp; done) | omega | (simp; omega))) | ((with_reducible refine Below.alloc ?_ ?_ _); rotate_left; focus (first | (simp; done) | omega | (simp; omega))))) hb
  have LL2 := BB2.size
  have R2 := RBox.step (RBox.alloc R1 _) hb
  have X2 := RBox.step (rbox_new w1 #[.int .u64 r.a0, .int .u64 r.a1, .int .u64 r.a2, .int .u64 r.a3, .int .u64 r.s0, .int .u64 r.s1, .int .u64 r.s2, .int .u64 r.s3, .int .i64 r.c] 26) hb
  clear hb Z0 Z1
  have TL : Tel w s r w1.heap.size w2.heap.size (w2.alloc (.cells #[.int .u64 r.a0, .int .u64 r.a1, .int .u64 r.a2, .int .u64 r.a3, .int .u64 r.s0, .int .u64 r.s1, .int .u64 r.s2, .int .u64 r.s3, .int .i64 r.c] 26)) := ⟨by repeat (first | (with_reducible assumption) | (with_reducible exact Below.refl _ _) | ((with_reducible refine Below.setCell ?_ ?_ _); rotate_left; focus (first | (simp; done) | omega | (simp; omega))) | ((with_reducible refine Below.alloc ?_ ?_ _); rotate_left; focus (first | (simp; done) | omega | (simp; omega)))), RBox.alloc R2 _, RBox.alloc X2 _, rbox_new _ _ _⟩
  have TLd := TL.drew
  clear R1 R2 X2 BB1 BB2
  go_upto_region 3 with fail
  go_region_held3 (fun w' => Tel w s r w1.heap.size w2.heap.size w' ∧ w'.cell? ⟨w.heap.size, 0, none⟩ = some (.int .u64 s.a0) ∧ w'.cell? ⟨w.heap.size, 1, none⟩ = some (.int .u64 s.a1) ∧ w'.cell? ⟨w.heap.size, 2, none⟩ = some (.int .u64 s.a2) ∧ w'.cell? ⟨w.heap.size, 3, none⟩ = some (.int .u64 s.a3) ∧ w'.cell? ⟨w.heap.size, 4, none⟩ = some (.int .u64 s.s0) ∧ w'.cell? ⟨w.heap.size, 5, none⟩ = some (.int .u64 s.s1) ∧ w'.cell? ⟨w.heap.size, 6, none⟩ = some (.int .u64 s.s2) ∧ w'.cell? ⟨w.heap.size, 7, none⟩ = some (.int .u64 s.s3) ∧ w'.cell? ⟨w.heap.size, 8, none⟩ = some (.int .i64 s.c) ∧ w'.cell? ⟨w1.heap.size, 0, none⟩ = some (.int .u64 r.a0) ∧ w'.cell? ⟨w1.heap.size, 1, none⟩ = some (.int .u64 r.a1) ∧ w'.cell? ⟨w1.heap.size, 2, none⟩ = some (.int .u64 r.a2) ∧ w'.cell? ⟨w1.heap.size, 3, none⟩ = some (.int .u64 r.a3) ∧ w'.cell? ⟨w1.heap.size, 4, none⟩ = some (.int .u64 r.s0) ∧ w'.cell? ⟨w1.heap.size, 5, none⟩ = some (.int .u64 r.s1) ∧ w'.cell? ⟨w1.heap.size, 6, none⟩ = some (.int .u64 r.s2) ∧ w'.cell? ⟨w1.heap.size, 7, none⟩ = some (.int .u64 r.s3) ∧ w'.cell? ⟨w1.heap.size, 8, none⟩ = some (.int .i64 r.c) ∧ w'.cell? ⟨w2.heap.size, 0, none⟩ = some (.int .u64 r.a0) ∧ w'.cell? ⟨w2.heap.size, 1, none⟩ = some (.int .u64 r.a1) ∧ w'.cell? ⟨w2.heap.size, 2, none⟩ = some (.int .u64 r.a2) ∧ w'.cell? ⟨w2.heap.size, 3, none⟩ = some (.int .u64 r.a3) ∧ w'.cell? ⟨w2.heap.size, 4, none⟩ = some (.int .u64 r.s0) ∧ w'.cell? ⟨w2.heap.size, 5, none⟩ = some (.int .u64 r.s1) ∧ w'.cell? ⟨w2.heap.size, 6, none⟩ = some (.int .u64 r.s2) ∧ w'.cell? ⟨w2.heap.size, 7, none⟩ = some (.int .u64 r.s3) ∧ w'.cell? ⟨w2.heap.size, 8, none⟩ = some (.int .i64 r.c))
    ((refine Tel.all ?_; with_reducible assumption))
    (first
      | (go_at_call 12; (with_reducible refine (tel_right (W := w) (s := s) (r := r) (X := w1.heap.size) (Y := w2.heap.size) t _ HO HT Ht (by with_reducible assumption)).mono ?_); rintro e w5 ⟨rfl, TT⟩)
      | (go_at_call 13; (with_reducible refine (tel_bright (W := w) (s := s) (r := r) (X := w1.heap.size) (Y := w2.heap.size) t _ HO Ht (by with_reducible assumption)).mono ?_); rintro e w5 ⟨rfl, TT⟩)
      | (go_at_call 14; (with_reducible refine (tel_would (W := w) (s := s) (r := r) (X := w1.heap.size) (Y := w2.heap.size) u _ HO HT Hu (by with_reducible assumption)).mono ?_); rintro e w5 ⟨rfl, TT⟩)
      | (go_at_call 15; (with_reducible refine (tel_bwould (W := w) (s := s) (r := r) (X := w1.heap.size) (Y := w2.heap.size) u _ HO Hu (by with_reducible assumption)).mono ?_); rintro e w5 ⟨rfl, TT⟩))
  all_goals go_wp2_with fail
  all_goals go_ret
  all_goals exact ⟨rfl, (by assumption : Tel w s r w1.heap.size w2.heap.size _).1⟩

theorem apicTells_walk (s : St) (k n : Int) (w : World) (h : s.Ok) (hT : Tab w) :
    Calls Tryd.prog 3 #[.agg #[.int .u64 s.a0, .int .u64 s.a1, .int .u64 s.a2, .int .u64 s.a3, .int .u64 s.s0, .int .u64 s.s1, .int .u64 s.s2, .int .u64 s.s3, .int .i64 s.c], .agg #[.int .i64 k, .int .i64 n]] w fun e w' => e = .returned (.bool true) ∧ Below w.heap.size w w' := by
  rcases hz : stepOf s k n with ⟨r, v, x⟩
  exact tells_core s r k n v x _ _ w h hT hz rfl rfl
end Go.Proofs.YtgddbmbljlngnaaDoor
