/- The walks of corebellref.AHas, ASet and AAll. -/
import Derived.Test.YtgddbmbljlngnaaDoorRefB
import Derived.Test.YtgddbmbljlngnaaDoorOrderParts
namespace Go.Proofs.YtgddbmbljlngnaaDoor
open Go.RowKit

theorem idx_row (R : Array Value) (n : Nat) (v : Value) (hn : n < 256) (hv : R[n]? = some v) (w : World) : (Instr.index 56 (.agg R) (.int .i64 (n : Int))).run Tryd.prog w = .ok v w := by
  have hp : (part 4 R n).run Tryd.prog w = .ok v w := by simp [part, Tryd.isAgg4, hv, Sem.run_bind]
  unfold Instr.index
  simp [asIntOf, Sem.run_bind, run_underlying Tryd.underlying56, Tryd.sizeOf4, hp]
  intro h
  omega

theorem row_R (a b c d : Nat) (R : Array Value) (w : World) (h : Hid (Ok a b c d)) (hR : Hid (boolsOf (mem a b c d) 256 = R)) :
    Calls Tryd.prog 38 #[.agg #[.int .u64 a, .int .u64 b, .int .u64 c, .int .u64 d]] w fun e w' => e = .returned (.agg R) ∧ Below w.heap.size w w' := by
  rw [← hR.out]
  exact row_any a b c d w h.out


/-- The predicate behind 'row[n] = t'. -/
def put (p : Nat → Bool) (n : Nat) (t : Bool) (i : Nat) : Bool := if i = n then t else p i
theorem bools_put (p : Nat → Bool) (n : Nat) (t : Bool) : (boolsOf p 256).setIfInBounds n (.bool t) = boolsOf (put p n t) 256 := by
  apply Array.ext_getElem?
  intro i
  rw [Array.getElem?_setIfInBounds]
  by_cases hi : i < 256
  · by_cases e : n = i
    · subst e
      rw [if_pos rfl, if_pos (by rw [size_boolsOf]; exact hi), boolsOf_at _ _ _ hi]
      simp [put]
    · rw [if_neg e, boolsOf_at _ _ _ hi, boolsOf_at _ _ _ hi]
      have : ¬ i = n := fun h => e h.symm
      simp [put, this]
  · have e1 : (boolsOf (put p n t) 256)[i]? = none := Array.getElem?_eq_none (by rw [size_boolsOf]; omega)
    have e2 : (boolsOf p 256)[i]? = none := Array.getElem?_eq_none (by rw [size_boolsOf]; omega)
    rw [e1, e2, size_boolsOf]
    split
    · rename_i e
      subst e
      rw [if_neg hi]
    · rfl
/-- Four words out of a predicate are the set's own, if they tell the same members. -/
theorem wof_eq {p : Nat → Bool} {a b c d : Nat} (h : Ok a b c d) (hp : ∀ m, m < 256 → p m = mem a b c d m) : wof p 0 = a ∧ wof p 1 = b ∧ wof p 2 = c ∧ wof p 3 = d :=
  set_ext (wof_ok p) h (fun m hm => by rw [mem_wof p m hm, hp m hm])

theorem bits_R (p : Nat → Bool) (R : Array Value) (p0 p1 p2 p3 : Nat) (w : World) (hR : R = boolsOf p 256) (hp : Hid (wof p 0 = p0 ∧ wof p 1 = p1 ∧ wof p 2 = p2 ∧ wof p 3 = p3)) :
    Calls Tryd.prog 39 #[.agg R] w fun e w' => e = .returned (.agg #[.int .u64 p0, .int .u64 p1, .int .u64 p2, .int .u64 p3]) ∧ Below w.heap.size w w' := by
  obtain ⟨rfl, rfl, rfl, rfl⟩ := hp.out
  subst hR
  exact bits_any p w
theorem store_last (Z R : Array Value) (hs : Z.size = R.size) (h1 : ∀ v ∈ R.toList, v.oneCell' = true) (W : World) :
    (storeCells ⟨W.heap.size, 0, none⟩ R.toList).run Tryd.prog (W.alloc (.cells Z 56)) = .ok () (W.alloc (.cells R 56)) := by
  have h := run_storeCells_from (P := Tryd.prog) W.heap.size 56 R.toList 0 Z _ (heap_alloc_new W _) (by simp [hs]) h1
  rw [World.setRow_alloc_new] at h
  simpa using h

set_option maxHeartbeats 8000000 in
set_option maxRecDepth 100000 in
theorem aset_core (a b c d p0 p1 p2 p3 n : Nat) (t : Bool) (Z R R' : Array Value) (w : World) (HO : Hid (Ok a b c d)) (hn : n < 256) (hz : ∀ w, (zeroValue 56).run Tryd.prog w = .ok (.agg Z) w)
    (HR : Hid (boolsOf (mem a b c d) 256 = R)) (hRs : R.size = 256) (hst : ∀ W : World, (storeCells ⟨W.heap.size, 0, none⟩ R.toList).run Tryd.prog (W.alloc (.cells Z 56)) = .ok () (W.alloc (.cells R 56)))
    (HR' : Hid (R.setIfInBounds n (.bool t) = R')) (HRs' : Hid (R'.size = 256)) (HB : Hid (R' = boolsOf (put (mem a b c d) n t) 256))
    (HP : Hid (wof (put (mem a b c d) n t) 0 = p0 ∧ wof (put (mem a b c d) n t) 1 = p1 ∧ wof (put (mem a b c d) n t) 2 = p2 ∧ wof (put (mem a b c d) n t) 3 = p3)) :
    Calls Tryd.prog 25 #[.agg #[.int .u64 a, .int .u64 b, .int .u64 c, .int .u64 d], .int .i64 n, .bool t] w fun e w' => e = .returned (.agg #[.int .u64 p0, .int .u64 p1, .int .u64 p2, .int .u64 p3]) ∧ Below w.heap.size w w' := by
  go_enter Tryd.func25, Tryd.ntmps25
  go_wp2_with (go_at_call 38; refine (row_R a b c d R _ HO HR).mono ?_; rintro e w1 ⟨rfl, hb⟩)
  have B0 := bat hb (w.heap.size + 1) (by simp)
  have HB0 := Lib.hid (((Below.refl w.heap.size w).alloc (Nat.le_refl _) _).alloc (by simp) _ |>.trans (hb.mono (by simp; omega)))
  clear hb
  refine wp_load_row 56 _ rfl w1.heap.size rfl 56 (R.setIfInBounds n (.bool t)) (0, 0) _ (heap_alloc_new w1 _) Tryd.underlying56 rfl (by rw [size_row, HR'.out, HRs'.out]) ?_
  go_wp2_with (go_at_call 39; refine (bits_R (put (mem a b c d) n t) _ p0 p1 p2 p3 _ (HR'.out.trans HB.out) HP).mono ?_; rintro e w2 ⟨rfl, hb2⟩; have B1 := bat hb2 (w.heap.size + 1) (by have := B0.2.2; simp; omega); have HB2 := Lib.hid hb2; clear hb2)
  refine bodyPost_ret (v := .agg #[.int .u64 p0, .int .u64 p1, .int .u64 p2, .int .u64 p3]) (by simp [results, Tryd.results25, go_sem, B0, B1]) rfl ⟨rfl, ?_⟩
  have hw2 : Below w.heap.size w w2 := (HB0.out.alloc HB0.out.size _).trans (HB2.out.mono (by have := HB0.out.size; simp; omega))
  repeat (first | exact hw2 | (refine Below.setCell ?_ (by simp; try omega) _))

set_option maxHeartbeats 8000000 in
set_option maxRecDepth 100000 in
theorem aset_out (a b c d : Nat) (n : Int) (t : Bool) (Z R : Array Value) (w : World) (HO : Hid (Ok a b c d)) (hn : n < 0 ∨ 256 ≤ n) (hz : ∀ w, (zeroValue 56).run Tryd.prog w = .ok (.agg Z) w)
    (HR : Hid (boolsOf (mem a b c d) 256 = R)) (hRs : R.size = 256) (hst : ∀ W : World, (storeCells ⟨W.heap.size, 0, none⟩ R.toList).run Tryd.prog (W.alloc (.cells Z 56)) = .ok () (W.alloc (.cells R 56))) :
    Calls Tryd.prog 25 #[.agg #[.int .u64 a, .int .u64 b, .int .u64 c, .int .u64 d], .int .i64 n, .bool t] w fun e w' => e = .returned (.agg #[.int .u64 a, .int .u64 b, .int .u64 c, .int .u64 d]) ∧ Below w.heap.size w w' := by
  have HP : Hid (wof (mem a b c d) 0 = a ∧ wof (mem a b c d) 1 = b ∧ wof (mem a b c d) 2 = c ∧ wof (mem a b c d) 3 = d) := wof_eq HO.out (fun _ _ => rfl)
  have HRs := Lib.hid hRs
  rcases hn with hn | hn
  · have hd : decide (0 ≤ n) = false := by simp; omega
    go_enter Tryd.func25, Tryd.ntmps25
    go_wp2_with (go_at_call 38; refine (row_R a b c d R _ HO HR).mono ?_; rintro e w1 ⟨rfl, hb⟩)
    have B0 := bat hb (w.heap.size + 1) (by simp)
    have HB0 := Lib.hid (((Below.refl w.heap.size w).alloc (Nat.le_refl _) _).alloc (by simp) _ |>.trans (hb.mono (by simp; omega)))
    clear hb
    refine wp_load_row 56 _ rfl w1.heap.size rfl 56 R (0, 0) _ (heap_alloc_new w1 _) Tryd.underlying56 rfl (by rw [size_row, HRs.out]) ?_
    go_wp2_with (go_at_call 39; refine (bits_R (mem a b c d) _ a b c d _ HR.out.symm HP).mono ?_; rintro e w2 ⟨rfl, hb2⟩; have B1 := bat hb2 (w.heap.size + 1) (by have := B0.2.2; simp; omega); have HB2 := Lib.hid hb2; clear hb2)
    refine bodyPost_ret (v := .agg #[.int .u64 a, .int .u64 b, .int .u64 c, .int .u64 d]) (by simp [results, Tryd.results25, go_sem, B0, B1]) rfl ⟨rfl, ?_⟩
    have hw2 : Below w.heap.size w w2 := (HB0.out.alloc HB0.out.size _).trans (HB2.out.mono (by have := HB0.out.size; simp; omega))
    repeat (first | exact hw2 | (refine Below.setCell ?_ (by simp; try omega) _))
  · have h0 : 0 ≤ n := by omega
    have hd : decide (n < 256) = false := by simp; omega
    go_enter Tryd.func25, Tryd.ntmps25
    go_wp2_with (go_at_call 38; refine (row_R a b c d R _ HO HR).mono ?_; rintro e w1 ⟨rfl, hb⟩)
    have B0 := bat hb (w.heap.size + 1) (by simp)
    have HB0 := Lib.hid (((Below.refl w.heap.size w).alloc (Nat.le_refl _) _).alloc (by simp) _ |>.trans (hb.mono (by simp; omega)))
    clear hb
    refine wp_load_row 56 _ rfl w1.heap.size rfl 56 R (0, 0) _ (heap_alloc_new w1 _) Tryd.underlying56 rfl (by rw [size_row, HRs.out]) ?_
    go_wp2_with (go_at_call 39; refine (bits_R (mem a b c d) _ a b c d _ HR.out.symm HP).mono ?_; rintro e w2 ⟨rfl, hb2⟩; have B1 := bat hb2 (w.heap.size + 1) (by have := B0.2.2; simp; omega); have HB2 := Lib.hid hb2; clear hb2)
    refine bodyPost_ret (v := .agg #[.int .u64 a, .int .u64 b, .int .u64 c, .int .u64 d]) (by simp [results, Tryd.results25, go_sem, B0, B1]) rfl ⟨rfl, ?_⟩
    have hw2 : Below w.heap.size w w2 := (HB0.out.alloc HB0.out.size _).trans (HB2.out.mono (by have := HB0.out.size; simp; omega))
    repeat (first | exact hw2 | (refine Below.setCell ?_ (by simp; try omega) _))

/-- What 'with' and 'without' make of the words, in range or not. -/
def setw (k : Nat) (n : Int) (t : Bool) (x : Nat) : Nat := if 0 ≤ n ∧ n < 256 then (if t = true then up k n.toNat x else dn k n.toNat x) else x
theorem zsize : (boolsOf (fun _ => false) 256).size = 256 := size_boolsOf _ _
theorem aset_any (a b c d : Nat) (n : Int) (t : Bool) (w : World) (h : Ok a b c d) :
    Calls Tryd.prog 25 #[.agg #[.int .u64 a, .int .u64 b, .int .u64 c, .int .u64 d], .int .i64 n, .bool t] w fun e w' => e = .returned (.agg #[.int .u64 (setw 0 n t a : Nat), .int .u64 (setw 1 n t b : Nat), .int .u64 (setw 2 n t c : Nat), .int .u64 (setw 3 n t d : Nat)]) ∧ Below w.heap.size w w' := by
  have hst := store_last (boolsOf (fun _ => false) 256) (boolsOf (mem a b c d) 256) (by rw [size_boolsOf, size_boolsOf]) (bools_one _ _)
  by_cases hr : 0 ≤ n ∧ n < 256
  · obtain ⟨m, rfl⟩ : ∃ m : Nat, n = m := ⟨n.toNat, by omega⟩
    refine aset_core a b c d _ _ _ _ m t _ _ _ w h (by omega) (zero_of_info info_row).1 rfl (size_boolsOf _ _) hst rfl ?_ (bools_put _ _ _) ?_
    · show (Array.setIfInBounds _ _ _).size = 256
      rw [bools_put, size_boolsOf]
    · have e : ∀ k x, setw k (m : Int) t x = if t = true then up k m x else dn k m x := fun k x => by unfold setw; rw [if_pos hr]; simp
      show _ ∧ _
      rw [e, e, e, e]
      cases t
      · simp only [Bool.false_eq_true, if_false]
        exact wof_eq (h.dn m) (fun i hi => by rw [mem_dn _ _ _ _ _ _ hi]; unfold put; by_cases e : i = m <;> simp [e])
      · simp only [if_true]
        exact wof_eq (h.up m) (fun i hi => by rw [mem_up _ _ _ _ _ _ hi]; unfold put; by_cases e : i = m <;> simp [e])
  · have e : ∀ k x, setw k n t x = x := fun k x => by unfold setw; rw [if_neg hr]
    rw [e, e, e, e]
    exact aset_out a b c d n t _ _ w h (by omega) (zero_of_info info_row).1 rfl (size_boolsOf _ _) hst
end Go.Proofs.YtgddbmbljlngnaaDoor
