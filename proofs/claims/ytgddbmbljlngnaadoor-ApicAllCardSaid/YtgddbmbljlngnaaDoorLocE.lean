/- The walk of apic.Step: for every state and every operation it answers what the plain stepOf says. -/
import Derived.Test.YtgddbmbljlngnaaDoorLocD
namespace Go.Proofs.YtgddbmbljlngnaaDoor
open Go.RowKit

theorem ask_R (s r : St) (n : Int) (v x : Int) (w : World) (HO : Hid s.Ok) (H : Hid ((if n < 32 ∨ 256 ≤ n then (St.zero, 0, 2) else (s.ask n.toNat, -1, 0)) = (r, v, x))) :
    Calls Tryd.prog 21 #[.agg #[.int .u64 s.a0, .int .u64 s.a1, .int .u64 s.a2, .int .u64 s.a3, .int .u64 s.s0, .int .u64 s.s1, .int .u64 s.s2, .int .u64 s.s3, .int .i64 s.c], .int .i64 n] w fun e w' => e = .returned (.tuple #[.agg #[.int .u64 r.a0, .int .u64 r.a1, .int .u64 r.a2, .int .u64 r.a3, .int .u64 r.s0, .int .u64 r.s1, .int .u64 r.s2, .int .u64 r.s3, .int .i64 r.c], .int .i64 v, .int .i64 x]) ∧ Below w.heap.size w w' := by
  have H' := H.out
  split at H'
  · rename_i h
    simp only [Prod.mk.injEq] at H'
    obtain ⟨rfl, rfl, rfl⟩ := H'
    by_cases h1 : n < 32
    · exact ask_low s n w h1
    · exact ask_high s n w (decide_eq_false h1) (by omega)
  · rename_i h
    simp only [Prod.mk.injEq] at H'
    obtain ⟨rfl, rfl, rfl⟩ := H'
    exact ask_ok s _ n w HO.out.1 (decide_eq_false (by omega)) (decide_eq_false (by omega)) (by omega) (by omega) rfl ⟨rfl, rfl, rfl, rfl⟩
theorem take_R (s r : St) (v x : Int) (w : World) (HO : Hid s.Ok) (hT : Tab w) (H : Hid ((if s.would < 0 then (St.zero, 0, 7) else (s.take s.would.toNat, s.would, 0)) = (r, v, x))) :
    Calls Tryd.prog 22 #[.agg #[.int .u64 s.a0, .int .u64 s.a1, .int .u64 s.a2, .int .u64 s.a3, .int .u64 s.s0, .int .u64 s.s1, .int .u64 s.s2, .int .u64 s.s3, .int .i64 s.c]] w fun e w' => e = .returned (.tuple #[.agg #[.int .u64 r.a0, .int .u64 r.a1, .int .u64 r.a2, .int .u64 r.a3, .int .u64 r.s0, .int .u64 r.s1, .int .u64 r.s2, .int .u64 r.s3, .int .i64 r.c], .int .i64 v, .int .i64 x]) ∧ Below w.heap.size w w' := by
  have H' := H.out
  split at H'
  · rename_i h
    simp only [Prod.mk.injEq] at H'
    obtain ⟨rfl, rfl, rfl⟩ := H'
    exact take_none s _ w HO hT rfl h
  · rename_i h
    simp only [Prod.mk.injEq] at H'
    obtain ⟨rfl, rfl, rfl⟩ := H'
    have hl := would_lt s
    exact take_ok s _ _ w HO HO.out.1 HO.out.2 hT rfl (decide_eq_false h) (by omega) (by omega) rfl ⟨rfl, rfl, rfl, rfl⟩ ⟨rfl, rfl, rfl, rfl⟩
theorem end_R (s r : St) (v x : Int) (w : World) (HO : Hid s.Ok) (H : Hid ((if topOf s.q < 0 then (St.zero, 0, 3) else (s.fin (topOf s.q).toNat, topOf s.q, 0)) = (r, v, x))) :
    Calls Tryd.prog 23 #[.agg #[.int .u64 s.a0, .int .u64 s.a1, .int .u64 s.a2, .int .u64 s.a3, .int .u64 s.s0, .int .u64 s.s1, .int .u64 s.s2, .int .u64 s.s3, .int .i64 s.c]] w fun e w' => e = .returned (.tuple #[.agg #[.int .u64 r.a0, .int .u64 r.a1, .int .u64 r.a2, .int .u64 r.a3, .int .u64 r.s0, .int .u64 r.s1, .int .u64 r.s2, .int .u64 r.s3, .int .i64 r.c], .int .i64 v, .int .i64 x]) ∧ Below w.heap.size w w' := by
  have H' := H.out
  split at H'
  · rename_i h
    simp only [Prod.mk.injEq] at H'
    obtain ⟨rfl, rfl, rfl⟩ := H'
    exact end_none s _ w HO.out.2 rfl h
  · rename_i h
    simp only [Prod.mk.injEq] at H'
    obtain ⟨rfl, rfl, rfl⟩ := H'
    have hl := topOf_lt s.q
    exact end_ok s _ _ w HO.out.2 rfl (decide_eq_false h) (by omega) (by omega) rfl ⟨rfl, rfl, rfl, rfl⟩
theorem setClass_R (s r : St) (n : Int) (v x : Int) (w : World) (H : Hid ((if clsB n = false then (St.zero, 0, 2) else ({ s with c := n }, -1, 0)) = (r, v, x))) :
    Calls Tryd.prog 24 #[.agg #[.int .u64 s.a0, .int .u64 s.a1, .int .u64 s.a2, .int .u64 s.a3, .int .u64 s.s0, .int .u64 s.s1, .int .u64 s.s2, .int .u64 s.s3, .int .i64 s.c], .int .i64 n] w fun e w' => e = .returned (.tuple #[.agg #[.int .u64 r.a0, .int .u64 r.a1, .int .u64 r.a2, .int .u64 r.a3, .int .u64 r.s0, .int .u64 r.s1, .int .u64 r.s2, .int .u64 r.s3, .int .i64 r.c], .int .i64 v, .int .i64 x]) ∧ Below w.heap.size w w' := by
  have H' := H.out
  split at H'
  · rename_i h
    simp only [Prod.mk.injEq] at H'
    obtain ⟨rfl, rfl, rfl⟩ := H'
    exact setClass_bad s n w h
  · rename_i h
    simp only [Prod.mk.injEq] at H'
    obtain ⟨rfl, rfl, rfl⟩ := H'
    exact setClass_ok s n w (show clsB n = true by simpa using h)
theorem refuse_R (r : St) (y v x : Int) (w : World) (H : Hid ((St.zero, (0 : Int), y) = (r, v, x))) :
    Calls Tryd.prog 20 #[.int .i64 y] w fun e w' => e = .returned (.tuple #[.agg #[.int .u64 r.a0, .int .u64 r.a1, .int .u64 r.a2, .int .u64 r.a3, .int .u64 r.s0, .int .u64 r.s1, .int .u64 r.s2, .int .u64 r.s3, .int .i64 r.c], .int .i64 v, .int .i64 x]) ∧ Below w.heap.size w w' := by
  have H' := H.out
  simp only [Prod.mk.injEq] at H'
  obtain ⟨rfl, rfl, rfl⟩ := H'
  exact refuse_any _ w
set_option maxHeartbeats 2000000 in
set_option maxRecDepth 100000 in
theorem step_form (s r : St) (k n v x : Int) (w : World) (HO : Hid s.Ok) (HT : Hid (Tab w)) (H1 : Hid (s.right = false)) (H : Hid (((St.zero, (0 : Int), (1 : Int))) = (r, v, x))) :
    Calls Tryd.prog 10 #[.agg #[.int .u64 s.a0, .int .u64 s.a1, .int .u64 s.a2, .int .u64 s.a3, .int .u64 s.s0, .int .u64 s.s1, .int .u64 s.s2, .int .u64 s.s3, .int .i64 s.c], .agg #[.int .i64 k, .int .i64 n]] w fun e w' => e = .returned (.tuple #[.agg #[.int .u64 r.a0, .int .u64 r.a1, .int .u64 r.a2, .int .u64 r.a3, .int .u64 r.s0, .int .u64 r.s1, .int .u64 r.s2, .int .u64 r.s3, .int .i64 r.c], .int .i64 v, .int .i64 x]) ∧ Below w.heap.size w w' := by
  go_enter Tryd.func10, Tryd.ntmps10
  go_wp2_with (first
    | (go_at_call 12; refine (right_R s false _ HO (HT.out.below ((((Below.refl w.heap.size w).alloc (Nat.le_refl _) _).alloc (by simp) _).alloc (by simp; try omega) _)) H1).mono ?_; rintro e w1 ⟨rfl, hb⟩; have B1 := bat hb (w.heap.size) (by first | omega | (simp; done) | (simp; omega)); have C1 := bat hb (w.heap.size + 1) (by first | omega | (simp; done) | (simp; omega)); have D1 := bat hb (w.heap.size + 2) (by first | omega | (simp; done) | (simp; omega)); have LL1 := And.intro B1.2.2 (And.intro C1.2.2 D1.2.2); have BB1 := bstep (W := w) (by repeat (first | (with_reducible assumption) | (with_reducible exact Below.refl _ _) | ((with_reducible refine Below.setCell ?_ ?_ _); rotate_left; focus (first | (simp; done) | omega | (simp; omega))) | ((with_reducible refine Below.alloc ?_ ?_ _); rotate_left; focus (first | (simp; done) | omega | (simp; omega))))) hb; clear hb)
    | (go_at_call 20; with_reducible refine (refuse_R r 1 v x _ H).mono ?_; rintro e w2 ⟨rfl, hb⟩; have B2 := bat hb (w.heap.size) (by first | omega | (simp; done) | (simp; omega)); have C2 := bat hb (w.heap.size + 1) (by first | omega | (simp; done) | (simp; omega)); have D2 := bat hb (w.heap.size + 2) (by first | omega | (simp; done) | (simp; omega)); have LL2 := And.intro B2.2.2 (And.intro C2.2.2 D2.2.2); have BB2 := bstep (W := w) (by repeat (first | (with_reducible assumption) | (with_reducible exact Below.refl _ _) | ((with_reducible refine Below.setCell ?_ ?_ _); rotate_left; focus (first | (simp; done) | omega | (simp; omega))) | ((with_reducible refine Below.alloc ?_ ?_ _); rotate_left; focus (first | (simp; done) | omega | (simp; omega))))) hb; clear hb))
  refine bodyPost_ret (v := .tuple #[.agg #[.int .u64 r.a0, .int .u64 r.a1, .int .u64 r.a2, .int .u64 r.a3, .int .u64 r.s0, .int .u64 r.s1, .int .u64 r.s2, .int .u64 r.s3, .int .i64 r.c], .int .i64 v, .int .i64 x]) (by simp [results, Tryd.results10, go_sem, D2, D1]) rfl ⟨?_, ?_⟩
  · rfl
  · repeat (first | (with_reducible assumption) | (with_reducible exact Below.refl _ _) | ((with_reducible refine Below.setCell ?_ ?_ _); rotate_left; focus (first | (simp; done) | omega | (simp; omega))) | ((with_reducible refine Below.alloc ?_ ?_ _); rotate_left; focus (first | (simp; done) | omega | (simp; omega))))
set_option maxHeartbeats 2000000 in
set_option maxRecDepth 100000 in
theorem step_ask (s r : St) (k n v x : Int) (w : World) (HO : Hid s.Ok) (HT : Hid (Tab w)) (H1 : Hid (s.right = true)) (hk : (k == 1) = true) (H : Hid ((if n < 32 ∨ 256 ≤ n then (St.zero, 0, 2) else (s.ask n.toNat, -1, 0)) = (r, v, x))) :
    Calls Tryd.prog 10 #[.agg #[.int .u64 s.a0, .int .u64 s.a1, .int .u64 s.a2, .int .u64 s.a3, .int .u64 s.s0, .int .u64 s.s1, .int .u64 s.s2, .int .u64 s.s3, .int .i64 s.c], .agg #[.int .i64 k, .int .i64 n]] w fun e w' => e = .returned (.tuple #[.agg #[.int .u64 r.a0, .int .u64 r.a1, .int .u64 r.a2, .int .u64 r.a3, .int .u64 r.s0, .int .u64 r.s1, .int .u64 r.s2, .int .u64 r.s3, .int .i64 r.c], .int .i64 v, .int .i64 x]) ∧ Below w.heap.size w w' := by
  go_enter Tryd.func10, Tryd.ntmps10
  go_wp2_with (first
    | (go_at_call 12; refine (right_R s true _ HO (HT.out.below ((((Below.refl w.heap.size w).alloc (Nat.le_refl _) _).alloc (by simp) _).alloc (by simp; try omega) _)) H1).mono ?_; rintro e w1 ⟨rfl, hb⟩; have B1 := bat hb (w.heap.size) (by first | omega | (simp; done) | (simp; omega)); have C1 := bat hb (w.heap.size + 1) (by first | omega | (simp; done) | (simp; omega)); have D1 := bat hb (w.heap.size + 2) (by first | omega | (simp; done) | (simp; omega)); have LL1 := And.intro B1.2.2 (And.intro C1.2.2 D1.2.2); have BB1 := bstep (W := w) (by repeat (first | (with_reducible assumption) | (with_reducible exact Below.refl _ _) | ((with_reducible refine Below.setCell ?_ ?_ _); rotate_left; focus (first | (simp; done) | omega | (simp; omega))) | ((with_reducible refine Below.alloc ?_ ?_ _); rotate_left; focus (first | (simp; done) | omega | (simp; omega))))) hb; clear hb)
    | (go_at_call 21; with_reducible refine (ask_R s r n v x _ HO H).mono ?_; rintro e w2 ⟨rfl, hb⟩; have B2 := bat hb (w.heap.size) (by first | omega | (simp; done) | (simp; omega)); have C2 := bat hb (w.heap.size + 1) (by first | omega | (simp; done) | (simp; omega)); have D2 := bat hb (w.heap.size + 2) (by first | omega | (simp; done) | (simp; omega)); have LL2 := And.intro B2.2.2 (And.intro C2.2.2 D2.2.2); have BB2 := bstep (W := w) (by repeat (first | (with_reducible assumption) | (with_reducible exact Below.refl _ _) | ((with_reducible refine Below.setCell ?_ ?_ _); rotate_left; focus (first | (simp; done) | omega | (simp; omega))) | ((with_reducible refine Below.alloc ?_ ?_ _); rotate_left; focus (first | (simp; done) | omega | (simp; omega))))) hb; clear hb))
  refine bodyPost_ret (v := .tuple #[.agg #[.int .u64 r.a0, .int .u64 r.a1, .int .u64 r.a2, .int .u64 r.a3, .int .u64 r.s0, .int .u64 r.s1, .int .u64 r.s2, .int .u64 r.s3, .int .i64 r.c], .int .i64 v, .int .i64 x]) (by simp [results, Tryd.results10, go_sem, D2, D1]) rfl ⟨?_, ?_⟩
  · rfl
  · repeat (first | (with_reducible assumption) | (with_reducible exact Below.refl _ _) | ((with_reducible refine Below.setCell ?_ ?_ _); rotate_left; focus (first | (simp; done) | omega | (simp; omega))) | ((with_reducible refine Below.alloc ?_ ?_ _); rotate_left; focus (first | (simp; done) | omega | (simp; omega))))
set_option maxHeartbeats 2000000 in
set_option maxRecDepth 100000 in
theorem step_take (s r : St) (k n v x : Int) (w : World) (HO : Hid s.Ok) (HT : Hid (Tab w)) (H1 : Hid (s.right = true)) (k1 : (k == 1) = false) (hk : (k == 2) = true) (H : Hid ((if s.would < 0 then (St.zero, 0, 7) else (s.take s.would.toNat, s.would, 0)) = (r, v, x))) :
    Calls Tryd.prog 10 #[.agg #[.int .u64 s.a0, .int .u64 s.a1, .int .u64 s.a2, .int .u64 s.a3, .int .u64 s.s0, .int .u64 s.s1, .int .u64 s.s2, .int .u64 s.s3, .int .i64 s.c], .agg #[.int .i64 k, .int .i64 n]] w fun e w' => e = .returned (.tuple #[.agg #[.int .u64 r.a0, .int .u64 r.a1, .int .u64 r.a2, .int .u64 r.a3, .int .u64 r.s0, .int .u64 r.s1, .int .u64 r.s2, .int .u64 r.s3, .int .i64 r.c], .int .i64 v, .int .i64 x]) ∧ Below w.heap.size w w' := by
  go_enter Tryd.func10, Tryd.ntmps10
  go_wp2_with (first
    | (go_at_call 12; refine (right_R s true _ HO (HT.out.below ((((Below.refl w.heap.size w).alloc (Nat.le_refl _) _).alloc (by simp) _).alloc (by simp; try omega) _)) H1).mono ?_; rintro e w1 ⟨rfl, hb⟩; have B1 := bat hb (w.heap.size) (by first | omega | (simp; done) | (simp; omega)); have C1 := bat hb (w.heap.size + 1) (by first | omega | (simp; done) | (simp; omega)); have D1 := bat hb (w.heap.size + 2) (by first | omega | (simp; done) | (simp; omega)); have LL1 := And.intro B1.2.2 (And.intro C1.2.2 D1.2.2); have BB1 := bstep (W := w) (by repeat (first | (with_reducible assumption) | (with_reducible exact Below.refl _ _) | ((with_reducible refine Below.setCell ?_ ?_ _); rotate_left; focus (first | (simp; done) | omega | (simp; omega))) | ((with_reducible refine Below.alloc ?_ ?_ _); rotate_left; focus (first | (simp; done) | omega | (simp; omega))))) hb; clear hb)
    | (go_at_call 22; with_reducible refine (take_R s r v x _ HO (HT.out.below BB1) H).mono ?_; rintro e w2 ⟨rfl, hb⟩; have B2 := bat hb (w.heap.size) (by first | omega | (simp; done) | (simp; omega)); have C2 := bat hb (w.heap.size + 1) (by first | omega | (simp; done) | (simp; omega)); have D2 := bat hb (w.heap.size + 2) (by first | omega | (simp; done) | (simp; omega)); have LL2 := And.intro B2.2.2 (And.intro C2.2.2 D2.2.2); have BB2 := bstep (W := w) (by repeat (first | (with_reducible assumption) | (with_reducible exact Below.refl _ _) | ((with_reducible refine Below.setCell ?_ ?_ _); rotate_left; focus (first | (simp; done) | omega | (simp; omega))) | ((with_reducible refine Below.alloc ?_ ?_ _); rotate_left; focus (first | (simp; done) | omega | (simp; omega))))) hb; clear hb))
  refine bodyPost_ret (v := .tuple #[.agg #[.int .u64 r.a0, .int .u64 r.a1, .int .u64 r.a2, .int .u64 r.a3, .int .u64 r.s0, .int .u64 r.s1, .int .u64 r.s2, .int .u64 r.s3, .int .i64 r.c], .int .i64 v, .int .i64 x]) (by simp [results, Tryd.results10, go_sem, D2, D1]) rfl ⟨?_, ?_⟩
  · rfl
  · repeat (first | (with_reducible assumption) | (with_reducible exact Below.refl _ _) | ((with_reducible refine Below.setCell ?_ ?_ _); rotate_left; focus (first | (simp; done) | omega | (simp; omega))) | ((with_reducible refine Below.alloc ?_ ?_ _); rotate_left; focus (first | (simp; done) | omega | (simp; omega))))
set_option maxHeartbeats 2000000 in
set_option maxRecDepth 100000 in
theorem step_end (s r : St) (k n v x : Int) (w : World) (HO : Hid s.Ok) (HT : Hid (Tab w)) (H1 : Hid (s.right = true)) (k1 : (k == 1) = false) (k2 : (k == 2) = false) (hk : (k == 3) = true) (H : Hid ((if topOf s.q < 0 then (St.zero, 0, 3) else (s.fin (topOf s.q).toNat, topOf s.q, 0)) = (r, v, x))) :
    Calls Tryd.prog 10 #[.agg #[.int .u64 s.a0, .int .u64 s.a1, .int .u64 s.a2, .int .u64 s.a3, .int .u64 s.s0, .int .u64 s.s1, .int .u64 s.s2, .int .u64 s.s3, .int .i64 s.c], .agg #[.int .i64 k, .int .i64 n]] w fun e w' => e = .returned (.tuple #[.agg #[.int .u64 r.a0, .int .u64 r.a1, .int .u64 r.a2, .int .u64 r.a3, .int .u64 r.s0, .int .u64 r.s1, .int .u64 r.s2, .int .u64 r.s3, .int .i64 r.c], .int .i64 v, .int .i64 x]) ∧ Below w.heap.size w w' := by
  go_enter Tryd.func10, Tryd.ntmps10
  go_wp2_with (first
    | (go_at_call 12; refine (right_R s true _ HO (HT.out.below ((((Below.refl w.heap.size w).alloc (Nat.le_refl _) _).alloc (by simp) _).alloc (by simp; try omega) _)) H1).mono ?_; rintro e w1 ⟨rfl, hb⟩; have B1 := bat hb (w.heap.size) (by first | omega | (simp; done) | (simp; omega)); have C1 := bat hb (w.heap.size + 1) (by first | omega | (simp; done) | (simp; omega)); have D1 := bat hb (w.heap.size + 2) (by first | omega | (simp; done) | (simp; omega)); have LL1 := And.intro B1.2.2 (And.intro C1.2.2 D1.2.2); have BB1 := bstep (W := w) (by repeat (first | (with_reducible assumption) | (with_reducible exact Below.refl _ _) | ((with_reducible refine Below.setCell ?_ ?_ _); rotate_left; focus (first | (simp; done) | omega | (simp; omega))) | ((with_reducible refine Below.alloc ?_ ?_ _); rotate_left; focus (first | (simp; done) | omega | (simp; omega))))) hb; clear hb)
    | (go_at_call 23; with_reducible refine (end_R s r v x _ HO H).mono ?_; rintro e w2 ⟨rfl, hb⟩; have B2 := bat hb (w.heap.size) (by first | omega | (simp; done) | (simp; omega)); have C2 := bat hb (w.heap.size + 1) (by first | omega | (simp; done) | (simp; omega)); have D2 := bat hb (w.heap.size + 2) (by first | omega | (simp; done) | (simp; omega)); have LL2 := And.intro B2.2.2 (And.intro C2.2.2 D2.2.2); have BB2 := bstep (W := w) (by repeat (first | (with_reducible assumption) | (with_reducible exact Below.refl _ _) | ((with_reducible refine Below.setCell ?_ ?_ _); rotate_left; focus (first | (simp; done) | omega | (simp; omega))) | ((with_reducible refine Below.alloc ?_ ?_ _); rotate_left; focus (first | (simp; done) | omega | (simp; omega))))) hb; clear hb))
  refine bodyPost_ret (v := .tuple #[.agg #[.int .u64 r.a0, .int .u64 r.a1, .int .u64 r.a2, .int .u64 r.a3, .int .u64 r.s0, .int .u64 r.s1, .int .u64 r.s2, .int .u64 r.s3, .int .i64 r.c], .int .i64 v, .int .i64 x]) (by simp [results, Tryd.results10, go_sem, D2, D1]) rfl ⟨?_, ?_⟩
  · rfl
  · repeat (first | (with_reducible assumption) | (with_reducible exact Below.refl _ _) | ((with_reducible refine Below.setCell ?_ ?_ _); rotate_left; focus (first | (simp; done) | omega | (simp; omega))) | ((with_reducible refine Below.alloc ?_ ?_ _); rotate_left; focus (first | (simp; done) | omega | (simp; omega))))
set_option maxHeartbeats 2000000 in
set_option maxRecDepth 100000 in
theorem step_class (s r : St) (k n v x : Int) (w : World) (HO : Hid s.Ok) (HT : Hid (Tab w)) (H1 : Hid (s.right = true)) (k1 : (k == 1) = false) (k2 : (k == 2) = false) (k3 : (k == 3) = false) (hk : (k == 4) = true) (H : Hid ((if clsB n = false then (St.zero, 0, 2) else ({ s with c := n }, -1, 0)) = (r, v, x))) :
    Calls Tryd.prog 10 #[.agg #[.int .u64 s.a0, .int .u64 s.a1, .int .u64 s.a2, .int .u64 s.a3, .int .u64 s.s0, .int .u64 s.s1, .int .u64 s.s2, .int .u64 s.s3, .int .i64 s.c], .agg #[.int .i64 k, .int .i64 n]] w fun e w' => e = .returned (.tuple #[.agg #[.int .u64 r.a0, .int .u64 r.a1, .int .u64 r.a2, .int .u64 r.a3, .int .u64 r.s0, .int .u64 r.s1, .int .u64 r.s2, .int .u64 r.s3, .int .i64 r.c], .int .i64 v, .int .i64 x]) ∧ Below w.heap.size w w' := by
  go_enter Tryd.func10, Tryd.ntmps10
  go_wp2_with (first
    | (go_at_call 12; refine (right_R s true _ HO (HT.out.below ((((Below.refl w.heap.size w).alloc (Nat.le_refl _) _).alloc (by simp) _).alloc (by simp; try omega) _)) H1).mono ?_; rintro e w1 ⟨rfl, hb⟩; have B1 := bat hb (w.heap.size) (by first | omega | (simp; done) | (simp; omega)); have C1 := bat hb (w.heap.size + 1) (by first | omega | (simp; done) | (simp; omega)); have D1 := bat hb (w.heap.size + 2) (by first | omega | (simp; done) | (simp; omega)); have LL1 := And.intro B1.2.2 (And.intro C1.2.2 D1.2.2); have BB1 := bstep (W := w) (by repeat (first | (with_reducible assumption) | (with_reducible exact Below.refl _ _) | ((with_reducible refine Below.setCell ?_ ?_ _); rotate_left; focus (first | (simp; done) | omega | (simp; omega))) | ((with_reducible refine Below.alloc ?_ ?_ _); rotate_left; focus (first | (simp; done) | omega | (simp; omega))))) hb; clear hb)
    | (go_at_call 24; with_reducible refine (setClass_R s r n v x _ H).mono ?_; rintro e w2 ⟨rfl, hb⟩; have B2 := bat hb (w.heap.size) (by first | omega | (simp; done) | (simp; omega)); have C2 := bat hb (w.heap.size + 1) (by first | omega | (simp; done) | (simp; omega)); have D2 := bat hb (w.heap.size + 2) (by first | omega | (simp; done) | (simp; omega)); have LL2 := And.intro B2.2.2 (And.intro C2.2.2 D2.2.2); have BB2 := bstep (W := w) (by repeat (first | (with_reducible assumption) | (with_reducible exact Below.refl _ _) | ((with_reducible refine Below.setCell ?_ ?_ _); rotate_left; focus (first | (simp; done) | omega | (simp; omega))) | ((with_reducible refine Below.alloc ?_ ?_ _); rotate_left; focus (first | (simp; done) | omega | (simp; omega))))) hb; clear hb))
  refine bodyPost_ret (v := .tuple #[.agg #[.int .u64 r.a0, .int .u64 r.a1, .int .u64 r.a2, .int .u64 r.a3, .int .u64 r.s0, .int .u64 r.s1, .int .u64 r.s2, .int .u64 r.s3, .int .i64 r.c], .int .i64 v, .int .i64 x]) (by simp [results, Tryd.results10, go_sem, D2, D1]) rfl ⟨?_, ?_⟩
  · rfl
  · repeat (first | (with_reducible assumption) | (with_reducible exact Below.refl _ _) | ((with_reducible refine Below.setCell ?_ ?_ _); rotate_left; focus (first | (simp; done) | omega | (simp; omega))) | ((with_reducible refine Below.alloc ?_ ?_ _); rotate_left; focus (first | (simp; done) | omega | (simp; omega))))
set_option maxHeartbeats 2000000 in
set_option maxRecDepth 100000 in
theorem step_kind (s r : St) (k n v x : Int) (w : World) (HO : Hid s.Ok) (HT : Hid (Tab w)) (H1 : Hid (s.right = true)) (k1 : (k == 1) = false) (k2 : (k == 2) = false) (k3 : (k == 3) = false) (k4 : (k == 4) = false) (H : Hid (((St.zero, (0 : Int), (5 : Int))) = (r, v, x))) :
    Calls Tryd.prog 10 #[.agg #[.int .u64 s.a0, .int .u64 s.a1, .int .u64 s.a2, .int .u64 s.a3, .int .u64 s.s0, .int .u64 s.s1, .int .u64 s.s2, .int .u64 s.s3, .int .i64 s.c], .agg #[.int .i64 k, .int .i64 n]] w fun e w' => e = .returned (.tuple #[.agg #[.int .u64 r.a0, .int .u64 r.a1, .int .u64 r.a2, .int .u64 r.a3, .int .u64 r.s0, .int .u64 r.s1, .int .u64 r.s2, .int .u64 r.s3, .int .i64 r.c], .int .i64 v, .int .i64 x]) ∧ Below w.heap.size w w' := by
  go_enter Tryd.func10, Tryd.ntmps10
  go_wp2_with (first
    | (go_at_call 12; refine (right_R s true _ HO (HT.out.below ((((Below.refl w.heap.size w).alloc (Nat.le_refl _) _).alloc (by simp) _).alloc (by simp; try omega) _)) H1).mono ?_; rintro e w1 ⟨rfl, hb⟩; have B1 := bat hb (w.heap.size) (by first | omega | (simp; done) | (simp; omega)); have C1 := bat hb (w.heap.size + 1) (by first | omega | (simp; done) | (simp; omega)); have D1 := bat hb (w.heap.size + 2) (by first | omega | (simp; done) | (simp; omega)); have LL1 := And.intro B1.2.2 (And.intro C1.2.2 D1.2.2); have BB1 := bstep (W := w) (by repeat (first | (with_reducible assumption) | (with_reducible exact Below.refl _ _) | ((with_reducible refine Below.setCell ?_ ?_ _); rotate_left; focus (first | (simp; done) | omega | (simp; omega))) | ((with_reducible refine Below.alloc ?_ ?_ _); rotate_left; focus (first | (simp; done) | omega | (simp; omega))))) hb; clear hb)
    | (go_at_call 20; with_reducible refine (refuse_R r 5 v x _ H).mono ?_; rintro e w2 ⟨rfl, hb⟩; have B2 := bat hb (w.heap.size) (by first | omega | (simp; done) | (simp; omega)); have C2 := bat hb (w.heap.size + 1) (by first | omega | (simp; done) | (simp; omega)); have D2 := bat hb (w.heap.size + 2) (by first | omega | (simp; done) | (simp; omega)); have LL2 := And.intro B2.2.2 (And.intro C2.2.2 D2.2.2); have BB2 := bstep (W := w) (by repeat (first | (with_reducible assumption) | (with_reducible exact Below.refl _ _) | ((with_reducible refine Below.setCell ?_ ?_ _); rotate_left; focus (first | (simp; done) | omega | (simp; omega))) | ((with_reducible refine Below.alloc ?_ ?_ _); rotate_left; focus (first | (simp; done) | omega | (simp; omega))))) hb; clear hb))
  refine bodyPost_ret (v := .tuple #[.agg #[.int .u64 r.a0, .int .u64 r.a1, .int .u64 r.a2, .int .u64 r.a3, .int .u64 r.s0, .int .u64 r.s1, .int .u64 r.s2, .int .u64 r.s3, .int .i64 r.c], .int .i64 v, .int .i64 x]) (by simp [results, Tryd.results10, go_sem, D2, D1]) rfl ⟨?_, ?_⟩
  · rfl
  · repeat (first | (with_reducible assumption) | (with_reducible exact Below.refl _ _) | ((with_reducible refine Below.setCell ?_ ?_ _); rotate_left; focus (first | (simp; done) | omega | (simp; omega))) | ((with_reducible refine Below.alloc ?_ ?_ _); rotate_left; focus (first | (simp; done) | omega | (simp; omega))))
theorem step_R (s r : St) (k n v x : Int) (w : World) (HO : Hid s.Ok) (hT : Tab w) (H : Hid (stepOf s k n = (r, v, x))) :
    Calls Tryd.prog 10 #[.agg #[.int .u64 s.a0, .int .u64 s.a1, .int .u64 s.a2, .int .u64 s.a3, .int .u64 s.s0, .int .u64 s.s1, .int .u64 s.s2, .int .u64 s.s3, .int .i64 s.c], .agg #[.int .i64 k, .int .i64 n]] w fun e w' => e = .returned (.tuple #[.agg #[.int .u64 r.a0, .int .u64 r.a1, .int .u64 r.a2, .int .u64 r.a3, .int .u64 r.s0, .int .u64 r.s1, .int .u64 r.s2, .int .u64 r.s3, .int .i64 r.c], .int .i64 v, .int .i64 x]) ∧ Below w.heap.size w w' := by
  have H' := H.out
  unfold stepOf at H'
  split at H'
  · rename_i h
    exact step_form s r k n v x w HO hT h H'
  rename_i h0
  have h : Hid (s.right = true) := show s.right = true by simpa using h0
  split at H'
  · rename_i h1
    exact step_ask s r k n v x w HO hT h (by simpa using h1) H'
  rename_i h1
  split at H'
  · rename_i h2
    exact step_take s r k n v x w HO hT h (by simpa using h1) (by simpa using h2) H'
  rename_i h2
  split at H'
  · rename_i h3
    exact step_end s r k n v x w HO hT h (by simpa using h1) (by simpa using h2) (by simpa using h3) H'
  rename_i h3
  split at H'
  · rename_i h4
    exact step_class s r k n v x w HO hT h (by simpa using h1) (by simpa using h2) (by simpa using h3) (by simpa using h4) H'
  rename_i h4
  exact step_kind s r k n v x w HO hT h (by simpa using h1) (by simpa using h2) (by simpa using h3) (by simpa using h4) H'
theorem step_W {W : World} (s r : St) (k n v x : Int) (w : World) (h : Hid s.Ok) (H : Hid (stepOf s k n = (r, v, x))) (hT : Hid (Tab W)) (hB : Below W.heap.size W w) :
    Calls Tryd.prog 10 #[.agg #[.int .u64 s.a0, .int .u64 s.a1, .int .u64 s.a2, .int .u64 s.a3, .int .u64 s.s0, .int .u64 s.s1, .int .u64 s.s2, .int .u64 s.s3, .int .i64 s.c], .agg #[.int .i64 k, .int .i64 n]] w fun e w' => e = .returned (.tuple #[.agg #[.int .u64 r.a0, .int .u64 r.a1, .int .u64 r.a2, .int .u64 r.a3, .int .u64 r.s0, .int .u64 r.s1, .int .u64 r.s2, .int .u64 r.s3, .int .i64 r.c], .int .i64 v, .int .i64 x]) ∧ Below W.heap.size W w' ∧ Below w.heap.size w w' := by
  refine (step_R s r k n v x w h (hT.out.below hB) H).mono ?_
  rintro e w' ⟨h1, hb⟩
  exact ⟨h1, hB.trans (hb.mono hB.size), hb⟩
end Go.Proofs.YtgddbmbljlngnaaDoor
