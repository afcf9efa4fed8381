/- Walks: apic.ask, take, end, setClass, Step, each for every input. -/
import Derived.Test.YtgddbmbljlngnaaDoorLocC
namespace Go.Proofs.YtgddbmbljlngnaaDoor
open Go.RowKit

set_option maxHeartbeats 2000000 in
set_option maxRecDepth 100000 in
theorem ask_low (s : St) (n : Int) (w : World) (h : n < 32) :
    Calls Tryd.prog 21 #[.agg #[.int .u64 s.a0, .int .u64 s.a1, .int .u64 s.a2, .int .u64 s.a3, .int .u64 s.s0, .int .u64 s.s1, .int .u64 s.s2, .int .u64 s.s3, .int .i64 s.c], .int .i64 n] w fun e w' => e = .returned (.tuple #[.agg #[.int .u64 0, .int .u64 0, .int .u64 0, .int .u64 0, .int .u64 0, .int .u64 0, .int .u64 0, .int .u64 0, .int .i64 0], .int .i64 0, .int .i64 2]) ∧ Below w.heap.size w w' := by
  go_enter Tryd.func21, Tryd.ntmps21
  go_wp2_with (first
    | (go_at_call 20; with_reducible refine (refuse_any 2 _).mono ?_; rintro e w' ⟨rfl, hb⟩; have B1 := bat hb (w.heap.size + 1) (by simp); have HB := Lib.hid hb; clear hb))
  refine bodyPost_ret (v := .tuple #[.agg #[.int .u64 0, .int .u64 0, .int .u64 0, .int .u64 0, .int .u64 0, .int .u64 0, .int .u64 0, .int .u64 0, .int .i64 0], .int .i64 0, .int .i64 2]) (by simp [results, Tryd.results21, go_sem, B1]) rfl ⟨?_, ?_⟩
  · rfl
  · have hw : Below w.heap.size w w' := (((Below.refl w.heap.size w).alloc (Nat.le_refl _) _).alloc (by simp) _).trans (HB.out.mono (by simp; omega))
    repeat (first | (with_reducible exact hw) | (refine Below.setCell ?_ (by simp; try omega) _))
set_option maxHeartbeats 2000000 in
set_option maxRecDepth 100000 in
theorem ask_high (s : St) (n : Int) (w : World) (hd : decide (n < 32) = false) (h : 256 ≤ n) :
    Calls Tryd.prog 21 #[.agg #[.int .u64 s.a0, .int .u64 s.a1, .int .u64 s.a2, .int .u64 s.a3, .int .u64 s.s0, .int .u64 s.s1, .int .u64 s.s2, .int .u64 s.s3, .int .i64 s.c], .int .i64 n] w fun e w' => e = .returned (.tuple #[.agg #[.int .u64 0, .int .u64 0, .int .u64 0, .int .u64 0, .int .u64 0, .int .u64 0, .int .u64 0, .int .u64 0, .int .i64 0], .int .i64 0, .int .i64 2]) ∧ Below w.heap.size w w' := by
  go_enter Tryd.func21, Tryd.ntmps21
  go_wp2_with (first
    | (go_at_call 20; with_reducible refine (refuse_any 2 _).mono ?_; rintro e w' ⟨rfl, hb⟩; have B1 := bat hb (w.heap.size + 1) (by simp); have HB := Lib.hid hb; clear hb))
  refine bodyPost_ret (v := .tuple #[.agg #[.int .u64 0, .int .u64 0, .int .u64 0, .int .u64 0, .int .u64 0, .int .u64 0, .int .u64 0, .int .u64 0, .int .i64 0], .int .i64 0, .int .i64 2]) (by simp [results, Tryd.results21, go_sem, B1]) rfl ⟨?_, ?_⟩
  · rfl
  · have hw : Below w.heap.size w w' := (((Below.refl w.heap.size w).alloc (Nat.le_refl _) _).alloc (by simp) _).trans (HB.out.mono (by simp; omega))
    repeat (first | (with_reducible exact hw) | (refine Below.setCell ?_ (by simp; try omega) _))
set_option maxHeartbeats 2000000 in
set_option maxRecDepth 100000 in
theorem ask_ok (s r : St) (n : Int) (w : World) (OA : Hid (Ok s.a0 s.a1 s.a2 s.a3)) (hd : decide (n < 32) = false) (hd1 : decide (256 ≤ n) = false) (h0 : 0 ≤ n) (h1 : n < 256) (Hr : Hid (s.ask n.toNat = r)) (Hp : Hid (up 0 n.toNat s.a0 = r.a0 ∧ up 1 n.toNat s.a1 = r.a1 ∧ up 2 n.toNat s.a2 = r.a2 ∧ up 3 n.toNat s.a3 = r.a3)) :
    Calls Tryd.prog 21 #[.agg #[.int .u64 s.a0, .int .u64 s.a1, .int .u64 s.a2, .int .u64 s.a3, .int .u64 s.s0, .int .u64 s.s1, .int .u64 s.s2, .int .u64 s.s3, .int .i64 s.c], .int .i64 n] w fun e w' => e = .returned (.tuple #[.agg #[.int .u64 r.a0, .int .u64 r.a1, .int .u64 r.a2, .int .u64 r.a3, .int .u64 r.s0, .int .u64 r.s1, .int .u64 r.s2, .int .u64 r.s3, .int .i64 r.c], .int .i64 (-1), .int .i64 0]) ∧ Below w.heap.size w w' := by
  go_enter Tryd.func21, Tryd.ntmps21
  go_wp2_with (go_at_call 36; with_reducible refine (with_R s.a0 s.a1 s.a2 s.a3 r.a0 r.a1 r.a2 r.a3 n _ OA h0 h1 Hp).mono ?_; rintro e w1 ⟨rfl, hb⟩; have B0 := bat hb w.heap.size (by simp; omega); have B1 := bat hb (w.heap.size + 1) (by simp); have HB := Lib.hid hb; clear hb)
  refine bodyPost_ret (v := .tuple #[.agg #[.int .u64 r.a0, .int .u64 r.a1, .int .u64 r.a2, .int .u64 r.a3, .int .u64 s.s0, .int .u64 s.s1, .int .u64 s.s2, .int .u64 s.s3, .int .i64 s.c], .int .i64 (-1), .int .i64 0]) (by simp [results, Tryd.results21, go_sem, B1]) rfl ⟨?_, ?_⟩
  · obtain rfl := Hr.out
    rfl
  · have hw : Below w.heap.size w w1 := (((Below.refl w.heap.size w).alloc (Nat.le_refl _) _).alloc (by simp) _).trans (HB.out.mono (by simp; omega))
    repeat (first | (with_reducible exact hw) | (refine Below.setCell ?_ (by simp; try omega) _))
set_option maxHeartbeats 2000000 in
set_option maxRecDepth 100000 in
theorem take_none (s : St) (v : Int) (w : World) (HO : Hid s.Ok) (HT : Hid (Tab w)) (Hv : Hid (s.would = v)) (h : v < 0) :
    Calls Tryd.prog 22 #[.agg #[.int .u64 s.a0, .int .u64 s.a1, .int .u64 s.a2, .int .u64 s.a3, .int .u64 s.s0, .int .u64 s.s1, .int .u64 s.s2, .int .u64 s.s3, .int .i64 s.c]] w fun e w' => e = .returned (.tuple #[.agg #[.int .u64 0, .int .u64 0, .int .u64 0, .int .u64 0, .int .u64 0, .int .u64 0, .int .u64 0, .int .u64 0, .int .i64 0], .int .i64 0, .int .i64 7]) ∧ Below w.heap.size w w' := by
  go_enter Tryd.func22, Tryd.ntmps22
  go_wp2_with (first
    | (go_at_call 14; refine (would_R s v _ HO (HT.out.below (((Below.refl w.heap.size w).alloc (Nat.le_refl _) _).alloc (by simp) _)) Hv).mono ?_; rintro e w1 ⟨rfl, hb⟩; have B1 := bat hb w.heap.size (by first | omega | (simp; done) | (simp; omega)); have C1 := bat hb (w.heap.size + 1) (by first | omega | (simp; done) | (simp; omega)); have LL1 := And.intro B1.2.2 C1.2.2; have BB1 := bstep (W := w) (by repeat (first | (with_reducible assumption) | (with_reducible exact Below.refl _ _) | ((with_reducible refine Below.setCell ?_ ?_ _); rotate_left; focus (first | (simp; done) | omega | (simp; omega))) | ((with_reducible refine Below.alloc ?_ ?_ _); rotate_left; focus (first | (simp; done) | omega | (simp; omega))))) hb; clear hb)
    | (go_at_call 20; with_reducible refine (refuse_any 7 _).mono ?_; rintro e w2 ⟨rfl, hb⟩; have B2 := bat hb w.heap.size (by first | omega | (simp; done) | (simp; omega)); have C2 := bat hb (w.heap.size + 1) (by first | omega | (simp; done) | (simp; omega)); have LL2 := And.intro B2.2.2 C2.2.2; have BB2 := bstep (W := w) (by repeat (first | (with_reducible assumption) | (with_reducible exact Below.refl _ _) | ((with_reducible refine Below.setCell ?_ ?_ _); rotate_left; focus (first | (simp; done) | omega | (simp; omega))) | ((with_reducible refine Below.alloc ?_ ?_ _); rotate_left; focus (first | (simp; done) | omega | (simp; omega))))) hb; clear hb))
  refine bodyPost_ret (v := .tuple #[.agg #[.int .u64 0, .int .u64 0, .int .u64 0, .int .u64 0, .int .u64 0, .int .u64 0, .int .u64 0, .int .u64 0, .int .i64 0], .int .i64 0, .int .i64 7]) (by simp [results, Tryd.results22, go_sem, C2, C1]) rfl ⟨?_, ?_⟩
  · rfl
  · repeat (first | (with_reducible assumption) | (with_reducible exact Below.refl _ _) | ((with_reducible refine Below.setCell ?_ ?_ _); rotate_left; focus (first | (simp; done) | omega | (simp; omega))) | ((with_reducible refine Below.alloc ?_ ?_ _); rotate_left; focus (first | (simp; done) | omega | (simp; omega))))
set_option maxHeartbeats 2000000 in
set_option maxRecDepth 100000 in
theorem take_ok (s r : St) (v : Int) (w : World) (HO : Hid s.Ok) (OA : Hid (Ok s.a0 s.a1 s.a2 s.a3)) (OS : Hid (Ok s.s0 s.s1 s.s2 s.s3)) (HT : Hid (Tab w)) (Hv : Hid (s.would = v)) (hd : decide (v < 0) = false) (h0 : 0 ≤ v) (h1 : v < 256) (Hr : Hid (s.take v.toNat = r)) (Hp : Hid (dn 0 v.toNat s.a0 = r.a0 ∧ dn 1 v.toNat s.a1 = r.a1 ∧ dn 2 v.toNat s.a2 = r.a2 ∧ dn 3 v.toNat s.a3 = r.a3)) (Hq : Hid (up 0 v.toNat s.s0 = r.s0 ∧ up 1 v.toNat s.s1 = r.s1 ∧ up 2 v.toNat s.s2 = r.s2 ∧ up 3 v.toNat s.s3 = r.s3)) :
    Calls Tryd.prog 22 #[.agg #[.int .u64 s.a0, .int .u64 s.a1, .int .u64 s.a2, .int .u64 s.a3, .int .u64 s.s0, .int .u64 s.s1, .int .u64 s.s2, .int .u64 s.s3, .int .i64 s.c]] w fun e w' => e = .returned (.tuple #[.agg #[.int .u64 r.a0, .int .u64 r.a1, .int .u64 r.a2, .int .u64 r.a3, .int .u64 r.s0, .int .u64 r.s1, .int .u64 r.s2, .int .u64 r.s3, .int .i64 r.c], .int .i64 v, .int .i64 0]) ∧ Below w.heap.size w w' := by
  go_enter Tryd.func22, Tryd.ntmps22
  go_wp2_with (first
    | (go_at_call 14; refine (would_R s v _ HO (HT.out.below (((Below.refl w.heap.size w).alloc (Nat.le_refl _) _).alloc (by simp) _)) Hv).mono ?_; rintro e w1 ⟨rfl, hb⟩; have B1 := bat hb w.heap.size (by first | omega | (simp; done) | (simp; omega)); have C1 := bat hb (w.heap.size + 1) (by first | omega | (simp; done) | (simp; omega)); have LL1 := And.intro B1.2.2 C1.2.2; have BB1 := bstep (W := w) (by repeat (first | (with_reducible assumption) | (with_reducible exact Below.refl _ _) | ((with_reducible refine Below.setCell ?_ ?_ _); rotate_left; focus (first | (simp; done) | omega | (simp; omega))) | ((with_reducible refine Below.alloc ?_ ?_ _); rotate_left; focus (first | (simp; done) | omega | (simp; omega))))) hb; clear hb)
    | (go_at_call 37; with_reducible refine (without_R s.a0 s.a1 s.a2 s.a3 r.a0 r.a1 r.a2 r.a3 v _ OA h0 h1 Hp).mono ?_; rintro e w2 ⟨rfl, hb⟩; have B2 := bat hb w.heap.size (by first | omega | (simp; done) | (simp; omega)); have C2 := bat hb (w.heap.size + 1) (by first | omega | (simp; done) | (simp; omega)); have LL2 := And.intro B2.2.2 C2.2.2; have BB2 := bstep (W := w) (by repeat (first | (with_reducible assumption) | (with_reducible exact Below.refl _ _) | ((with_reducible refine Below.setCell ?_ ?_ _); rotate_left; focus (first | (simp; done) | omega | (simp; omega))) | ((with_reducible refine Below.alloc ?_ ?_ _); rotate_left; focus (first | (simp; done) | omega | (simp; omega))))) hb; clear hb)
    | (go_at_call 36; with_reducible refine (with_R s.s0 s.s1 s.s2 s.s3 r.s0 r.s1 r.s2 r.s3 v _ OS h0 h1 Hq).mono ?_; rintro e w3 ⟨rfl, hb⟩; have B3 := bat hb w.heap.size (by first | omega | (simp; done) | (simp; omega)); have C3 := bat hb (w.heap.size + 1) (by first | omega | (simp; done) | (simp; omega)); have LL3 := And.intro B3.2.2 C3.2.2; have BB3 := bstep (W := w) (by repeat (first | (with_reducible assumption) | (with_reducible exact Below.refl _ _) | ((with_reducible refine Below.setCell ?_ ?_ _); rotate_left; focus (first | (simp; done) | omega | (simp; omega))) | ((with_reducible refine Below.alloc ?_ ?_ _); rotate_left; focus (first | (simp; done) | omega | (simp; omega))))) hb; clear hb))
  refine bodyPost_ret (v := .tuple #[.agg #[.int .u64 r.a0, .int .u64 r.a1, .int .u64 r.a2, .int .u64 r.a3, .int .u64 r.s0, .int .u64 r.s1, .int .u64 r.s2, .int .u64 r.s3, .int .i64 s.c], .int .i64 v, .int .i64 0]) (by simp [results, Tryd.results22, go_sem, C3, C2, C1]) rfl ⟨?_, ?_⟩
  · obtain rfl := Hr.out
    rfl
  · repeat (first | (with_reducible assumption) | (with_reducible exact Below.refl _ _) | ((with_reducible refine Below.setCell ?_ ?_ _); rotate_left; focus (first | (simp; done) | omega | (simp; omega))) | ((with_reducible refine Below.alloc ?_ ?_ _); rotate_left; focus (first | (simp; done) | omega | (simp; omega))))
set_option maxHeartbeats 2000000 in
set_option maxRecDepth 100000 in
theorem end_none (s : St) (v : Int) (w : World) (OS : Hid (Ok s.s0 s.s1 s.s2 s.s3)) (Hv : Hid (topOf (mem s.s0 s.s1 s.s2 s.s3) = v)) (h : v < 0) :
    Calls Tryd.prog 23 #[.agg #[.int .u64 s.a0, .int .u64 s.a1, .int .u64 s.a2, .int .u64 s.a3, .int .u64 s.s0, .int .u64 s.s1, .int .u64 s.s2, .int .u64 s.s3, .int .i64 s.c]] w fun e w' => e = .returned (.tuple #[.agg #[.int .u64 0, .int .u64 0, .int .u64 0, .int .u64 0, .int .u64 0, .int .u64 0, .int .u64 0, .int .u64 0, .int .i64 0], .int .i64 0, .int .i64 3]) ∧ Below w.heap.size w w' := by
  go_enter Tryd.func23, Tryd.ntmps23
  go_wp2_with (first
    | (go_at_call 18; with_reducible refine (top_every s.s0 s.s1 s.s2 s.s3 v _ OS Hv).mono ?_; rintro e w1 ⟨rfl, hb⟩; have B1 := bat hb w.heap.size (by first | omega | (simp; done) | (simp; omega)); have C1 := bat hb (w.heap.size + 1) (by first | omega | (simp; done) | (simp; omega)); have LL1 := And.intro B1.2.2 C1.2.2; have BB1 := bstep (W := w) (by repeat (first | (with_reducible assumption) | (with_reducible exact Below.refl _ _) | ((with_reducible refine Below.setCell ?_ ?_ _); rotate_left; focus (first | (simp; done) | omega | (simp; omega))) | ((with_reducible refine Below.alloc ?_ ?_ _); rotate_left; focus (first | (simp; done) | omega | (simp; omega))))) hb; clear hb)
    | (go_at_call 20; with_reducible refine (refuse_any 3 _).mono ?_; rintro e w2 ⟨rfl, hb⟩; have B2 := bat hb w.heap.size (by first | omega | (simp; done) | (simp; omega)); have C2 := bat hb (w.heap.size + 1) (by first | omega | (simp; done) | (simp; omega)); have LL2 := And.intro B2.2.2 C2.2.2; have BB2 := bstep (W := w) (by repeat (first | (with_reducible assumption) | (with_reducible exact Below.refl _ _) | ((with_reducible refine Below.setCell ?_ ?_ _); rotate_left; focus (first | (simp; done) | omega | (simp; omega))) | ((with_reducible refine Below.alloc ?_ ?_ _); rotate_left; focus (first | (simp; done) | omega | (simp; omega))))) hb; clear hb))
  refine bodyPost_ret (v := .tuple #[.agg #[.int .u64 0, .int .u64 0, .int .u64 0, .int .u64 0, .int .u64 0, .int .u64 0, .int .u64 0, .int .u64 0, .int .i64 0], .int .i64 0, .int .i64 3]) (by simp [results, Tryd.results23, go_sem, C2, C1]) rfl ⟨?_, ?_⟩
  · rfl
  · repeat (first | (with_reducible assumption) | (with_reducible exact Below.refl _ _) | ((with_reducible refine Below.setCell ?_ ?_ _); rotate_left; focus (first | (simp; done) | omega | (simp; omega))) | ((with_reducible refine Below.alloc ?_ ?_ _); rotate_left; focus (first | (simp; done) | omega | (simp; omega))))
set_option maxHeartbeats 2000000 in
set_option maxRecDepth 100000 in
theorem end_ok (s r : St) (v : Int) (w : World) (OS : Hid (Ok s.s0 s.s1 s.s2 s.s3)) (Hv : Hid (topOf (mem s.s0 s.s1 s.s2 s.s3) = v)) (hd : decide (v < 0) = false) (h0 : 0 ≤ v) (h1 : v < 256) (Hr : Hid (s.fin v.toNat = r)) (Hp : Hid (dn 0 v.toNat s.s0 = r.s0 ∧ dn 1 v.toNat s.s1 = r.s1 ∧ dn 2 v.toNat s.s2 = r.s2 ∧ dn 3 v.toNat s.s3 = r.s3)) :
    Calls Tryd.prog 23 #[.agg #[.int .u64 s.a0, .int .u64 s.a1, .int .u64 s.a2, .int .u64 s.a3, .int .u64 s.s0, .int .u64 s.s1, .int .u64 s.s2, .int .u64 s.s3, .int .i64 s.c]] w fun e w' => e = .returned (.tuple #[.agg #[.int .u64 r.a0, .int .u64 r.a1, .int .u64 r.a2, .int .u64 r.a3, .int .u64 r.s0, .int .u64 r.s1, .int .u64 r.s2, .int .u64 r.s3, .int .i64 r.c], .int .i64 v, .int .i64 0]) ∧ Below w.heap.size w w' := by
  go_enter Tryd.func23, Tryd.ntmps23
  go_wp2_with (first
    | (go_at_call 18; with_reducible refine (top_every s.s0 s.s1 s.s2 s.s3 v _ OS Hv).mono ?_; rintro e w1 ⟨rfl, hb⟩; have B1 := bat hb w.heap.size (by first | omega | (simp; done) | (simp; omega)); have C1 := bat hb (w.heap.size + 1) (by first | omega | (simp; done) | (simp; omega)); have LL1 := And.intro B1.2.2 C1.2.2; have BB1 := bstep (W := w) (by repeat (first | (with_reducible assumption) | (with_reducible exact Below.refl _ _) | ((with_reducible refine Below.setCell ?_ ?_ _); rotate_left; focus (first | (simp; done) | omega | (simp; omega))) | ((with_reducible refine Below.alloc ?_ ?_ _); rotate_left; focus (first | (simp; done) | omega | (simp; omega))))) hb; clear hb)
    | (go_at_call 37; with_reducible refine (without_R s.s0 s.s1 s.s2 s.s3 r.s0 r.s1 r.s2 r.s3 v _ OS h0 h1 Hp).mono ?_; rintro e w2 ⟨rfl, hb⟩; have B2 := bat hb w.heap.size (by first | omega | (simp; done) | (simp; omega)); have C2 := bat hb (w.heap.size + 1) (by first | omega | (simp; done) | (simp; omega)); have LL2 := And.intro B2.2.2 C2.2.2; have BB2 := bstep (W := w) (by repeat (first | (with_reducible assumption) | (with_reducible exact Below.refl _ _) | ((with_reducible refine Below.setCell ?_ ?_ _); rotate_left; focus (first | (simp; done) | omega | (simp; omega))) | ((with_reducible refine Below.alloc ?_ ?_ _); rotate_left; focus (first | (simp; done) | omega | (simp; omega))))) hb; clear hb))
  refine bodyPost_ret (v := .tuple #[.agg #[.int .u64 s.a0, .int .u64 s.a1, .int .u64 s.a2, .int .u64 s.a3, .int .u64 r.s0, .int .u64 r.s1, .int .u64 r.s2, .int .u64 r.s3, .int .i64 s.c], .int .i64 v, .int .i64 0]) (by simp [results, Tryd.results23, go_sem, C2, C1]) rfl ⟨?_, ?_⟩
  · obtain rfl := Hr.out
    rfl
  · repeat (first | (with_reducible assumption) | (with_reducible exact Below.refl _ _) | ((with_reducible refine Below.setCell ?_ ?_ _); rotate_left; focus (first | (simp; done) | omega | (simp; omega))) | ((with_reducible refine Below.alloc ?_ ?_ _); rotate_left; focus (first | (simp; done) | omega | (simp; omega))))
set_option maxHeartbeats 2000000 in
set_option maxRecDepth 100000 in
theorem setClass_bad (s : St) (n : Int) (w : World) (Hn : Hid (clsB n = false)) :
    Calls Tryd.prog 24 #[.agg #[.int .u64 s.a0, .int .u64 s.a1, .int .u64 s.a2, .int .u64 s.a3, .int .u64 s.s0, .int .u64 s.s1, .int .u64 s.s2, .int .u64 s.s3, .int .i64 s.c], .int .i64 n] w fun e w' => e = .returned (.tuple #[.agg #[.int .u64 0, .int .u64 0, .int .u64 0, .int .u64 0, .int .u64 0, .int .u64 0, .int .u64 0, .int .u64 0, .int .i64 0], .int .i64 0, .int .i64 2]) ∧ Below w.heap.size w w' := by
  go_enter Tryd.func24, Tryd.ntmps24
  go_wp2_with (first
    | (go_at_call 27; with_reducible refine (isClass_R n false _ Hn).mono ?_; rintro e w' ⟨rfl, rfl⟩)
    | (go_at_call 20; with_reducible refine (refuse_any 2 _).mono ?_; rintro e w2 ⟨rfl, hb⟩; have B2 := bat hb w.heap.size (by first | omega | (simp; done) | (simp; omega)); have C2 := bat hb (w.heap.size + 1) (by first | omega | (simp; done) | (simp; omega)); have LL2 := And.intro B2.2.2 C2.2.2; have BB2 := bstep (W := w) (by repeat (first | (with_reducible assumption) | (with_reducible exact Below.refl _ _) | ((with_reducible refine Below.setCell ?_ ?_ _); rotate_left; focus (first | (simp; done) | omega | (simp; omega))) | ((with_reducible refine Below.alloc ?_ ?_ _); rotate_left; focus (first | (simp; done) | omega | (simp; omega))))) hb; clear hb))
  refine bodyPost_ret (v := .tuple #[.agg #[.int .u64 0, .int .u64 0, .int .u64 0, .int .u64 0, .int .u64 0, .int .u64 0, .int .u64 0, .int .u64 0, .int .i64 0], .int .i64 0, .int .i64 2]) (by simp [results, Tryd.results24, go_sem, C2]) rfl ⟨?_, ?_⟩
  · rfl
  · repeat (first | (with_reducible assumption) | (with_reducible exact Below.refl _ _) | ((with_reducible refine Below.setCell ?_ ?_ _); rotate_left; focus (first | (simp; done) | omega | (simp; omega))) | ((with_reducible refine Below.alloc ?_ ?_ _); rotate_left; focus (first | (simp; done) | omega | (simp; omega))))
set_option maxHeartbeats 2000000 in
set_option maxRecDepth 100000 in
theorem setClass_ok (s : St) (n : Int) (w : World) (Hn : Hid (clsB n = true)) :
    Calls Tryd.prog 24 #[.agg #[.int .u64 s.a0, .int .u64 s.a1, .int .u64 s.a2, .int .u64 s.a3, .int .u64 s.s0, .int .u64 s.s1, .int .u64 s.s2, .int .u64 s.s3, .int .i64 s.c], .int .i64 n] w fun e w' => e = .returned (.tuple #[.agg #[.int .u64 s.a0, .int .u64 s.a1, .int .u64 s.a2, .int .u64 s.a3, .int .u64 s.s0, .int .u64 s.s1, .int .u64 s.s2, .int .u64 s.s3, .int .i64 n], .int .i64 (-1), .int .i64 0]) ∧ Below w.heap.size w w' := by
  go_enter Tryd.func24, Tryd.ntmps24
  go_wp2_with (first
    | (go_at_call 27; with_reducible refine (isClass_R n true _ Hn).mono ?_; rintro e w' ⟨rfl, rfl⟩))
  refine bodyPost_ret (v := .tuple #[.agg #[.int .u64 s.a0, .int .u64 s.a1, .int .u64 s.a2, .int .u64 s.a3, .int .u64 s.s0, .int .u64 s.s1, .int .u64 s.s2, .int .u64 s.s3, .int .i64 n], .int .i64 (-1), .int .i64 0]) (by simp [results, Tryd.results24, go_sem]) rfl ⟨?_, ?_⟩
  · rfl
  · repeat (first | (with_reducible assumption) | (with_reducible exact Below.refl _ _) | ((with_reducible refine Below.setCell ?_ ?_ _); rotate_left; focus (first | (simp; done) | omega | (simp; omega))) | ((with_reducible refine Below.alloc ?_ ?_ _); rotate_left; focus (first | (simp; done) | omega | (simp; omega))))
end Go.Proofs.YtgddbmbljlngnaaDoor
