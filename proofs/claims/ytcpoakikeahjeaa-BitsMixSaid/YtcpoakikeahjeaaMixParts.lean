/- For corebellref.AMix: two rows made in whatever order; what a row in memory is behind calls, new blocks and stores. -/
import Derived.Test.YtcpoakikeahjeaaRefB
import Derived.Deep.DeepCutAuto
namespace Go.Proofs.Ytcpoakikeahjeaa
open Go.RowKit

/-- Nothing below sz has turned. -/
def Kp (W0 : World) (sz : Nat) (w : World) : Prop := Below sz W0 w ∧ sz ≤ w.heap.size
/-- A row of bools in block g, from sz on. -/
def At (sz g : Nat) (R : Array Value) (w : World) : Prop := sz ≤ g ∧ w.heap[g]? = some (.cells R 29 (0, 0))
theorem At.lt {sz g : Nat} {R : Array Value} {w : World} (h : At sz g R w) : g < w.heap.size := (Array.getElem?_eq_some_iff.1 h.2).1
theorem Kp.alloc {W0 w : World} {sz : Nat} (h : Kp W0 sz w) (o : Obj) : Kp W0 sz (w.alloc o) := ⟨h.1.alloc h.2 o, by have := h.2; simp; omega⟩
theorem Kp.call {W0 w w' : World} {sz : Nat} (h : Kp W0 sz w) (hb : Below w.heap.size w w') : Kp W0 sz w' := ⟨h.1.trans (hb.mono h.2), Nat.le_trans h.2 hb.size⟩
theorem Kp.set {W0 w : World} {sz g : Nat} (h : Kp W0 sz w) (hg : sz ≤ g) (R : Array Value) : Kp W0 sz (w.setRow g R) :=
  ⟨h.1.trans ⟨rfl, rfl, rfl, by simp, fun k hk => setRow_other _ _ _ _ (by omega)⟩, by have := h.2; simpa using this⟩
theorem At.new {W0 w : World} {sz : Nat} (h : Kp W0 sz w) (Z : Array Value) : At sz w.heap.size Z (w.alloc (.cells Z 29)) := ⟨h.2, heap_alloc_new w _⟩
theorem At.alloc {sz g : Nat} {R : Array Value} {w : World} (h : At sz g R w) (o : Obj) : At sz g R (w.alloc o) := ⟨h.1, (Below.heap_alloc w o g h.lt).trans h.2⟩
theorem At.call {sz g : Nat} {R : Array Value} {w w' : World} (h : At sz g R w) (hb : Below w.heap.size w w') : At sz g R w' := ⟨h.1, (hb.block g h.lt).trans h.2⟩
theorem At.same {sz g : Nat} {R : Array Value} {w : World} (h : At sz g R w) (R' : Array Value) : At sz g R' (w.setRow g R') := ⟨h.1, setRow_heap w g R R' _ _ h.2⟩
theorem At.other {sz g g' : Nat} {R : Array Value} {w : World} (h : At sz g R w) (hne : g ≠ g') (R' : Array Value) : At sz g R (w.setRow g' R') := ⟨h.1, (setRow_other w g' g R' hne).trans h.2⟩

/-- The world in which the two rows are made. -/
theorem mix_base (w : World) (a0 a1 a2 a3 b0 b1 b2 b3 : Nat) (Z : Array Value) : ∃ W0, W0 = ((((w.alloc (.cells #[.int .u64 a0, .int .u64 a1, .int .u64 a2, .int .u64 a3] 24)).alloc (.cells #[.int .u64 b0, .int .u64 b1, .int .u64 b2, .int .u64 b3] 24)).alloc (.cells #[.int .u64 0, .int .u64 0, .int .u64 0, .int .u64 0] 24)).alloc (.cells Z 29)) ∧ W0.heap.size = w.heap.size + 4 ∧ Below w.heap.size w W0 ∧
    W0.heap[w.heap.size]? = some (.cells #[.int .u64 a0, .int .u64 a1, .int .u64 a2, .int .u64 a3] 24 (0, 0)) ∧ W0.heap[w.heap.size + 1]? = some (.cells #[.int .u64 b0, .int .u64 b1, .int .u64 b2, .int .u64 b3] 24 (0, 0)) ∧
    W0.heap[w.heap.size + 2]? = some (.cells #[.int .u64 0, .int .u64 0, .int .u64 0, .int .u64 0] 24 (0, 0)) ∧ W0.heap[w.heap.size + 3]? = some (.cells Z 29 (0, 0)) := by
  have s : ∀ (w : World) (o : Obj), (w.alloc o).heap.size = w.heap.size + 1 := fun w o => World.size_alloc w o
  have n0 : ∀ (w : World) (o : Obj) (k : Nat), k = w.heap.size → (w.alloc o).heap[k]? = some o := fun w o k hk => by rw [hk]; exact heap_alloc_new w o
  have o0 : ∀ (w : World) (o : Obj) (k : Nat), k < w.heap.size → (w.alloc o).heap[k]? = w.heap[k]? := fun w o k hk => Below.heap_alloc w o k hk
  refine ⟨_, rfl, by simp [s], (((((Below.refl _ _).alloc (Nat.le_refl _) _).alloc (by simp [s]) _).alloc (by simp [s]; omega) _).alloc (by simp [s]; omega) _), ?_, ?_, ?_, ?_⟩
  · rw [o0 _ _ _ (by simp only [s]; omega), o0 _ _ _ (by simp only [s]; omega), o0 _ _ _ (by simp only [s]; omega), n0 _ _ _ rfl]
  · rw [o0 _ _ _ (by simp only [s]; omega), o0 _ _ _ (by simp only [s]; omega), n0 _ _ _ (by simp only [s])]
  · rw [o0 _ _ _ (by simp only [s]; omega), n0 _ _ _ (by simp only [s])]
  · rw [n0 _ _ _ (by simp only [s])]
theorem row_cells {w : World} {g : Nat} {x0 x1 x2 x3 : Nat} (h : w.heap[g]? = some (.cells #[.int .u64 x0, .int .u64 x1, .int .u64 x2, .int .u64 x3] 24 (0, 0))) :
    w.cell? ⟨g, 0, none⟩ = some (.int .u64 x0) ∧ w.cell? ⟨g, 1, none⟩ = some (.int .u64 x1) ∧ w.cell? ⟨g, 2, none⟩ = some (.int .u64 x2) ∧ w.cell? ⟨g, 3, none⟩ = some (.int .u64 x3) := by
  refine ⟨?_, ?_, ?_, ?_⟩ <;> (rw [cell_of_row w g _ _ _ _ h]; rfl)
theorem s_of {w W0 w' : World} {a0 a1 a2 a3 b0 b1 b2 b3 : Nat} (ha : W0.heap[w.heap.size]? = some (.cells #[.int .u64 a0, .int .u64 a1, .int .u64 a2, .int .u64 a3] 24 (0, 0))) (hb : W0.heap[w.heap.size + 1]? = some (.cells #[.int .u64 b0, .int .u64 b1, .int .u64 b2, .int .u64 b3] 24 (0, 0)))
    (h : Kp W0 (w.heap.size + 4) w') : Kp W0 (w.heap.size + 4) w' ∧ w'.cell? ⟨w.heap.size, 0, none⟩ = some (.int .u64 a0) ∧ w'.cell? ⟨w.heap.size, 1, none⟩ = some (.int .u64 a1) ∧ w'.cell? ⟨w.heap.size, 2, none⟩ = some (.int .u64 a2) ∧ w'.cell? ⟨w.heap.size, 3, none⟩ = some (.int .u64 a3) ∧ w'.cell? ⟨w.heap.size + 1, 0, none⟩ = some (.int .u64 b0) ∧ w'.cell? ⟨w.heap.size + 1, 1, none⟩ = some (.int .u64 b1) ∧ w'.cell? ⟨w.heap.size + 1, 2, none⟩ = some (.int .u64 b2) ∧ w'.cell? ⟨w.heap.size + 1, 3, none⟩ = some (.int .u64 b3) := by
  have ea := row_cells (w := w') ((h.1.block w.heap.size (by omega)).trans ha)
  have eb := row_cells (w := w') ((h.1.block (w.heap.size + 1) (by omega)).trans hb)
  exact ⟨h, ea.1, ea.2.1, ea.2.2.1, ea.2.2.2, eb.1, eb.2.1, eb.2.2.1, eb.2.2.2⟩
theorem bools_all (p : Nat → Bool) (n : Nat) : (boolsOf p n).all (·.oneCell') = true := by
  rw [Array.all_eq_true_iff_forall_mem]
  intro v hv
  exact bools_one p n v (by simpa using hv)
/-- What the loop of AMix keeps. -/
def Mixing (w : World) (g h : Nat) (R1 R2 C : Array Value) (wr : World) : Prop :=
  wr.heap[w.heap.size + 1 + 1 + 1]? = some (.cells C 29 (0, 0)) ∧ wr.heap[w.heap.size + 1 + 1]? = some (.cells #[.int .u64 0, .int .u64 0, .int .u64 0, .int .u64 0] 24 (0, 0)) ∧ At (w.heap.size + 4) g R1 wr ∧ At (w.heap.size + 4) h R2 wr ∧ Below w.heap.size w wr
theorem Mixing.step {w wr : World} {g h : Nat} {R1 R2 C : Array Value} (m : Mixing w g h R1 R2 C wr) (n : Nat) (v : Value) : Mixing w g h R1 R2 (C.setIfInBounds n v) (wr.setCell ⟨w.heap.size + 1 + 1 + 1, n, none⟩ v).drew := by
  obtain ⟨m1, m2, m3, m4, m5⟩ := m
  have h3 := m3.1
  have h4 := m4.1
  refine ⟨heap_setCell_same wr _ n C _ v m1, ?_, ⟨m3.1, ?_⟩, ⟨m4.1, ?_⟩, (m5.setCell (by show w.heap.size ≤ w.heap.size + 1 + 1 + 1; omega) v).drew⟩
  · exact (heap_setCell_other wr _ _ v (by show w.heap.size + 1 + 1 ≠ w.heap.size + 1 + 1 + 1; omega)).trans m2
  · exact (heap_setCell_other wr _ _ v (by show g ≠ w.heap.size + 1 + 1 + 1; omega)).trans m3.2
  · exact (heap_setCell_other wr _ _ v (by show h ≠ w.heap.size + 1 + 1 + 1; omega)).trans m4.2
theorem zero_cells {w : World} {g : Nat} (h : w.heap[g]? = some (.cells #[.int .u64 0, .int .u64 0, .int .u64 0, .int .u64 0] 24 (0, 0))) :
    (w.cell? ⟨g, 0, none⟩ = some (.int .u64 0) ∧ w.cell? ⟨g, 1, none⟩ = some (.int .u64 0) ∧ w.cell? ⟨g, 2, none⟩ = some (.int .u64 0) ∧ w.cell? ⟨g, 3, none⟩ = some (.int .u64 0)) ∧ (∀ o, w.frozen? ⟨g, o, none⟩ = false) := by
  refine ⟨⟨?_, ?_, ?_, ?_⟩, fun o => frozen_of_row w g o _ _ h⟩ <;> (rw [cell_of_row w g _ _ _ _ h]; rfl)
theorem row_R (a b c d : Nat) (R : Array Value) (w : World) (h : Hid (Ok a b c d)) (hR : Hid (boolsOf (mem a b c d) 256 = R)) :
    Calls Try.prog 9 #[.agg #[.int .u64 a, .int .u64 b, .int .u64 c, .int .u64 d]] w fun e w' => e = .returned (.agg R) ∧ Below w.heap.size w w' := by
  rw [← hR.out]
  exact row_any a b c d w h.out
end Go.Proofs.Ytcpoakikeahjeaa
