/- Walks: apic.Right, Would, ask, take, end, setClass, Step, each for every input. -/
import Derived.Test.YtgddbmbljlngnaaDoorLocA
namespace Go.Proofs.YtgddbmbljlngnaaDoor
open Go.RowKit

/-- A controller's state in a variable. -/
def LBox (w : World) (B : Nat) (s : St) : Prop := w.heap[B]? = some (.cells #[.int .u64 s.a0, .int .u64 s.a1, .int .u64 s.a2, .int .u64 s.a3, .int .u64 s.s0, .int .u64 s.s1, .int .u64 s.s2, .int .u64 s.s3, .int .i64 s.c] 26 (0, 0))
theorem LBox.cells {w : World} {B : Nat} {s : St} (h : LBox w B s) : w.cell? ⟨B, 0, none⟩ = some (.int .u64 s.a0) ∧ w.cell? ⟨B, 1, none⟩ = some (.int .u64 s.a1) ∧ w.cell? ⟨B, 2, none⟩ = some (.int .u64 s.a2) ∧ w.cell? ⟨B, 3, none⟩ = some (.int .u64 s.a3) ∧ w.cell? ⟨B, 4, none⟩ = some (.int .u64 s.s0) ∧ w.cell? ⟨B, 5, none⟩ = some (.int .u64 s.s1) ∧ w.cell? ⟨B, 6, none⟩ = some (.int .u64 s.s2) ∧ w.cell? ⟨B, 7, none⟩ = some (.int .u64 s.s3) ∧ w.cell? ⟨B, 8, none⟩ = some (.int .i64 s.c) := by
  unfold LBox at h
  refine ⟨?_, ?_, ?_, ?_, ?_, ?_, ?_, ?_, ?_⟩ <;> (rw [cell_of_row w B _ _ _ _ h]; rfl)
theorem LBox.lt {w : World} {B : Nat} {s : St} (h : LBox w B s) : B < w.heap.size := by
  unfold LBox at h
  exact (Array.getElem?_eq_some_iff.1 h).1
theorem LBox.below {w w' : World} {B M : Nat} {s : St} (h : LBox w B s) (hb : Below M w w') (hM : B < M) : LBox w' B s := by
  unfold LBox at h ⊢
  rw [hb.block B hM]
  exact h
theorem LBox.step {w w' : World} {B : Nat} {s : St} (h : LBox w B s) (hb : Below w.heap.size w w') : LBox w' B s := h.below hb h.lt
/-- A state in the first block of the call; nothing that was there has turned. -/
def Loc (W : World) (s : St) (w : World) : Prop := LBox w W.heap.size s ∧ Below W.heap.size W w
theorem Loc.step {W w w' : World} {s : St} (h : Loc W s w) (hb : Below w.heap.size w w') : Loc W s w' := ⟨h.1.step hb, h.2.trans (hb.mono h.2.size)⟩
theorem Loc.drew {W w : World} {s : St} (h : Loc W s w) : Loc W s w.drew := ⟨h.1, h.2.drew⟩
theorem Loc.alloc {W w : World} {s : St} (h : Loc W s w) (o : Obj) : Loc W s (w.alloc o) := h.step ((Below.refl _ _).alloc (Nat.le_refl _) o)
theorem loc_new (w : World) (s : St) : Loc w s (w.alloc (.cells #[.int .u64 s.a0, .int .u64 s.a1, .int .u64 s.a2, .int .u64 s.a3, .int .u64 s.s0, .int .u64 s.s1, .int .u64 s.s2, .int .u64 s.s3, .int .i64 s.c] 26)) := ⟨heap_alloc_new w _, ((Below.refl _ _).alloc (Nat.le_refl _) _)⟩

theorem allowed_W {W : World} (a b c d : Nat) (t : Bool) (w : World) (h : Hid (Ok a b c d)) (ht : Hid (lowB (mem a b c d) = t)) (hT : Hid (Tab W)) (hB : Below W.heap.size W w) :
    Calls Tryd.prog 28 #[.agg #[.int .u64 a, .int .u64 b, .int .u64 c, .int .u64 d]] w fun e w' => e = .returned (.bool t) ∧ Below W.heap.size W w' ∧ Below w.heap.size w w' := by
  refine (allowed_R a b c d t w h (hT.out.below hB) ht).mono ?_
  rintro e w' ⟨h1, hb⟩
  exact ⟨h1, hB.trans (hb.mono hB.size), hb⟩
theorem differ_W {W : World} (a b c d : Nat) (t : Bool) (w : World) (h : Hid (Ok a b c d)) (ht : Hid (diffB (mem a b c d) = t)) (hT : Hid (Tab W)) (hB : Below W.heap.size W w) :
    Calls Tryd.prog 29 #[.agg #[.int .u64 a, .int .u64 b, .int .u64 c, .int .u64 d]] w fun e w' => e = .returned (.bool t) ∧ Below W.heap.size W w' ∧ Below w.heap.size w w' := by
  refine (differ_R a b c d t w h (hT.out.below hB) ht).mono ?_
  rintro e w' ⟨h1, hb⟩
  exact ⟨h1, hB.trans (hb.mono hB.size), hb⟩
set_option maxRecDepth 100000 in
theorem right_1 (s : St) (w : World) (H1 : Hid (clsB s.c = false)) :
    Calls Tryd.prog 12 #[.agg #[.int .u64 s.a0, .int .u64 s.a1, .int .u64 s.a2, .int .u64 s.a3, .int .u64 s.s0, .int .u64 s.s1, .int .u64 s.s2, .int .u64 s.s3, .int .i64 s.c]] w fun e w' => e = .returned (.bool false) ∧ Below w.heap.size w w' := by
  have T0 := (loc_new w s).1
  have B0 := (loc_new w s).2
  go_enter Tryd.func12, Tryd.ntmps12
  go_wp2_with (first
    | (go_at_call 27; with_reducible refine (isClass_R s.c false _ H1).mono ?_; rintro e w' ⟨rfl, rfl⟩))
  go_ret
  exact ⟨rfl, by assumption⟩
set_option maxRecDepth 100000 in
theorem right_2 (s : St) (w : World) (OA : Hid (Ok s.a0 s.a1 s.a2 s.a3)) (HT : Hid (Tab w)) (H1 : Hid (clsB s.c = true)) (H2 : Hid (lowB (mem s.a0 s.a1 s.a2 s.a3) = false)) :
    Calls Tryd.prog 12 #[.agg #[.int .u64 s.a0, .int .u64 s.a1, .int .u64 s.a2, .int .u64 s.a3, .int .u64 s.s0, .int .u64 s.s1, .int .u64 s.s2, .int .u64 s.s3, .int .i64 s.c]] w fun e w' => e = .returned (.bool false) ∧ Below w.heap.size w w' := by
  have T0 := (loc_new w s).1
  have B0 := (loc_new w s).2
  go_enter Tryd.func12, Tryd.ntmps12
  go_wp2_with (first
    | (go_at_call 27; with_reducible refine (isClass_R s.c true _ H1).mono ?_; rintro e w' ⟨rfl, rfl⟩)
    | (go_at_call 28; with_reducible refine (allowed_W (W := w) s.a0 s.a1 s.a2 s.a3 false _ OA H2 HT (by with_reducible assumption)).mono ?_; rintro e w' ⟨rfl, BB, hb⟩; have TT := LBox.step (by with_reducible assumption) hb; clear hb; obtain ⟨c0, c1, c2, c3, c4, c5, c6, c7, c8⟩ := TT.cells))
  go_ret
  exact ⟨rfl, by assumption⟩
set_option maxRecDepth 100000 in
theorem right_3 (s : St) (w : World) (OA : Hid (Ok s.a0 s.a1 s.a2 s.a3)) (OS : Hid (Ok s.s0 s.s1 s.s2 s.s3)) (HT : Hid (Tab w)) (H1 : Hid (clsB s.c = true)) (H2 : Hid (lowB (mem s.a0 s.a1 s.a2 s.a3) = true)) (H3 : Hid (lowB (mem s.s0 s.s1 s.s2 s.s3) = false)) :
    Calls Tryd.prog 12 #[.agg #[.int .u64 s.a0, .int .u64 s.a1, .int .u64 s.a2, .int .u64 s.a3, .int .u64 s.s0, .int .u64 s.s1, .int .u64 s.s2, .int .u64 s.s3, .int .i64 s.c]] w fun e w' => e = .returned (.bool false) ∧ Below w.heap.size w w' := by
  have T0 := (loc_new w s).1
  have B0 := (loc_new w s).2
  go_enter Tryd.func12, Tryd.ntmps12
  go_wp2_with (first
    | (go_at_call 27; with_reducible refine (isClass_R s.c true _ H1).mono ?_; rintro e w' ⟨rfl, rfl⟩)
    | (go_at_call 28; with_reducible refine (allowed_W (W := w) s.a0 s.a1 s.a2 s.a3 true _ OA H2 HT (by with_reducible assumption)).mono ?_; rintro e w' ⟨rfl, BB, hb⟩; have TT := LBox.step (by with_reducible assumption) hb; clear hb; obtain ⟨c0, c1, c2, c3, c4, c5, c6, c7, c8⟩ := TT.cells)
    | (go_at_call 28; with_reducible refine (allowed_W (W := w) s.s0 s.s1 s.s2 s.s3 false _ OS H3 HT (by with_reducible assumption)).mono ?_; rintro e w' ⟨rfl, BB, hb⟩; have TT := LBox.step (by with_reducible assumption) hb; clear hb; obtain ⟨c0, c1, c2, c3, c4, c5, c6, c7, c8⟩ := TT.cells))
  go_ret
  exact ⟨rfl, by assumption⟩
set_option maxRecDepth 100000 in
theorem right_4 (s : St) (w : World) (OA : Hid (Ok s.a0 s.a1 s.a2 s.a3)) (OS : Hid (Ok s.s0 s.s1 s.s2 s.s3)) (HT : Hid (Tab w)) (H1 : Hid (clsB s.c = true)) (H2 : Hid (lowB (mem s.a0 s.a1 s.a2 s.a3) = true)) (H3 : Hid (lowB (mem s.s0 s.s1 s.s2 s.s3) = true)) (H4 : Hid (diffB (mem s.s0 s.s1 s.s2 s.s3) = false)) :
    Calls Tryd.prog 12 #[.agg #[.int .u64 s.a0, .int .u64 s.a1, .int .u64 s.a2, .int .u64 s.a3, .int .u64 s.s0, .int .u64 s.s1, .int .u64 s.s2, .int .u64 s.s3, .int .i64 s.c]] w fun e w' => e = .returned (.bool false) ∧ Below w.heap.size w w' := by
  have T0 := (loc_new w s).1
  have B0 := (loc_new w s).2
  go_enter Tryd.func12, Tryd.ntmps12
  go_wp2_with (first
    | (go_at_call 27; with_reducible refine (isClass_R s.c true _ H1).mono ?_; rintro e w' ⟨rfl, rfl⟩)
    | (go_at_call 28; with_reducible refine (allowed_W (W := w) s.a0 s.a1 s.a2 s.a3 true _ OA H2 HT (by with_reducible assumption)).mono ?_; rintro e w' ⟨rfl, BB, hb⟩; have TT := LBox.step (by with_reducible assumption) hb; clear hb; obtain ⟨c0, c1, c2, c3, c4, c5, c6, c7, c8⟩ := TT.cells)
    | (go_at_call 28; with_reducible refine (allowed_W (W := w) s.s0 s.s1 s.s2 s.s3 true _ OS H3 HT (by with_reducible assumption)).mono ?_; rintro e w' ⟨rfl, BB, hb⟩; have TT := LBox.step (by with_reducible assumption) hb; clear hb; obtain ⟨c0, c1, c2, c3, c4, c5, c6, c7, c8⟩ := TT.cells)
    | (go_at_call 29; with_reducible refine (differ_W (W := w) s.s0 s.s1 s.s2 s.s3 false _ OS H4 HT (by with_reducible assumption)).mono ?_; rintro e w' ⟨rfl, BB, hb⟩; have TT := LBox.step (by with_reducible assumption) hb; clear hb; obtain ⟨c0, c1, c2, c3, c4, c5, c6, c7, c8⟩ := TT.cells))
  go_ret
  exact ⟨rfl, by assumption⟩
set_option maxRecDepth 100000 in
theorem right_5 (s : St) (w : World) (OA : Hid (Ok s.a0 s.a1 s.a2 s.a3)) (OS : Hid (Ok s.s0 s.s1 s.s2 s.s3)) (HT : Hid (Tab w)) (H1 : Hid (clsB s.c = true)) (H2 : Hid (lowB (mem s.a0 s.a1 s.a2 s.a3) = true)) (H3 : Hid (lowB (mem s.s0 s.s1 s.s2 s.s3) = true)) (H4 : Hid (diffB (mem s.s0 s.s1 s.s2 s.s3) = true)) :
    Calls Tryd.prog 12 #[.agg #[.int .u64 s.a0, .int .u64 s.a1, .int .u64 s.a2, .int .u64 s.a3, .int .u64 s.s0, .int .u64 s.s1, .int .u64 s.s2, .int .u64 s.s3, .int .i64 s.c]] w fun e w' => e = .returned (.bool true) ∧ Below w.heap.size w w' := by
  have T0 := (loc_new w s).1
  have B0 := (loc_new w s).2
  go_enter Tryd.func12, Tryd.ntmps12
  go_wp2_with (first
    | (go_at_call 27; with_reducible refine (isClass_R s.c true _ H1).mono ?_; rintro e w' ⟨rfl, rfl⟩)
    | (go_at_call 28; with_reducible refine (allowed_W (W := w) s.a0 s.a1 s.a2 s.a3 true _ OA H2 HT (by with_reducible assumption)).mono ?_; rintro e w' ⟨rfl, BB, hb⟩; have TT := LBox.step (by with_reducible assumption) hb; clear hb; obtain ⟨c0, c1, c2, c3, c4, c5, c6, c7, c8⟩ := TT.cells)
    | (go_at_call 28; with_reducible refine (allowed_W (W := w) s.s0 s.s1 s.s2 s.s3 true _ OS H3 HT (by with_reducible assumption)).mono ?_; rintro e w' ⟨rfl, BB, hb⟩; have TT := LBox.step (by with_reducible assumption) hb; clear hb; obtain ⟨c0, c1, c2, c3, c4, c5, c6, c7, c8⟩ := TT.cells)
    | (go_at_call 29; with_reducible refine (differ_W (W := w) s.s0 s.s1 s.s2 s.s3 true _ OS H4 HT (by with_reducible assumption)).mono ?_; rintro e w' ⟨rfl, BB, hb⟩; have TT := LBox.step (by with_reducible assumption) hb; clear hb; obtain ⟨c0, c1, c2, c3, c4, c5, c6, c7, c8⟩ := TT.cells))
  go_ret
  exact ⟨rfl, by assumption⟩
theorem right_R (s : St) (t : Bool) (w : World) (HO : Hid s.Ok) (hT : Tab w) (ht : Hid (s.right = t)) :
    Calls Tryd.prog 12 #[.agg #[.int .u64 s.a0, .int .u64 s.a1, .int .u64 s.a2, .int .u64 s.a3, .int .u64 s.s0, .int .u64 s.s1, .int .u64 s.s2, .int .u64 s.s3, .int .i64 s.c]] w fun e w' => e = .returned (.bool t) ∧ Below w.heap.size w w' := by
  rw [← ht.out]
  unfold St.right rightB
  cases h1 : clsB s.c
  · exact right_1 s w h1
  · cases h2 : lowB s.p
    · exact right_2 s w HO.out.1 hT h1 h2
    · cases h3 : lowB s.q
      · exact right_3 s w HO.out.1 HO.out.2 hT h1 h2 h3
      · cases h4 : diffB s.q
        · exact right_4 s w HO.out.1 HO.out.2 hT h1 h2 h3 h4
        · exact right_5 s w HO.out.1 HO.out.2 hT h1 h2 h3 h4
theorem right_W {W : World} (s : St) (t : Bool) (w : World) (h : Hid s.Ok) (ht : Hid (s.right = t)) (hT : Hid (Tab W)) (hB : Below W.heap.size W w) :
    Calls Tryd.prog 12 #[.agg #[.int .u64 s.a0, .int .u64 s.a1, .int .u64 s.a2, .int .u64 s.a3, .int .u64 s.s0, .int .u64 s.s1, .int .u64 s.s2, .int .u64 s.s3, .int .i64 s.c]] w fun e w' => e = .returned (.bool t) ∧ Below W.heap.size W w' ∧ Below w.heap.size w w' := by
  refine (right_R s t w h (hT.out.below hB) ht).mono ?_
  rintro e w' ⟨h1, hb⟩
  exact ⟨h1, hB.trans (hb.mono hB.size), hb⟩
end Go.Proofs.YtgddbmbljlngnaaDoor
