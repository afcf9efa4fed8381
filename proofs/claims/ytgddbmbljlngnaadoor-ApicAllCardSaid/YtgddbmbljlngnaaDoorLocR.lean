/- What the laws on package apic share: a step that errs, a row of cells in a block. -/
import Derived.Test.YtgddbmbljlngnaaDoorAliveB
import Derived.Test.YtgddbmbljlngnaaDoorEqL
import Derived.Test.YtgddbmbljlngnaaDoorLocQ
namespace Go.Proofs.YtgddbmbljlngnaaDoor
open Go.RowKit

theorem step_Z (s : St) (k n x : Int) (w : World) (HO : Hid s.Ok) (hT : Tab w) (H : Hid (stepOf s k n = (St.zero, 0, x))) :
    Calls Tryd.prog 10 #[.agg #[.int .u64 s.a0, .int .u64 s.a1, .int .u64 s.a2, .int .u64 s.a3, .int .u64 s.s0, .int .u64 s.s1, .int .u64 s.s2, .int .u64 s.s3, .int .i64 s.c], .agg #[.int .i64 k, .int .i64 n]] w fun e w' => e = .returned (.tuple #[.agg #[.int .u64 0, .int .u64 0, .int .u64 0, .int .u64 0, .int .u64 0, .int .u64 0, .int .u64 0, .int .u64 0, .int .i64 0], .int .i64 0, .int .i64 x]) ∧ Below w.heap.size w w' :=
  step_R s St.zero k n 0 x w HO hT H
theorem alive2_T (w : World) (hT : Tab w) : Calls Tryd.prog 16 #[] w fun e w' => e = .returned (.bool true) ∧ Below w.heap.size w w' := alive2_any w hT
/-- A row of cells in a block. -/
def RBox (w : World) (B : Nat) (row : Array Value) (t : TypeId) : Prop := w.heap[B]? = some (.cells row t (0, 0))
theorem RBox.cell {w : World} {B : Nat} {row : Array Value} {t : TypeId} (h : RBox w B row t) (i : Nat) (v : Value) (hi : row[i]? = some v) : w.cell? ⟨B, i, none⟩ = some v := by
  unfold RBox at h
  rw [cell_of_row w B _ _ _ _ h, hi]
theorem RBox.lt {w : World} {B : Nat} {row : Array Value} {t : TypeId} (h : RBox w B row t) : B < w.heap.size := (Array.getElem?_eq_some_iff.1 h).1
theorem RBox.step {w w' : World} {B : Nat} {row : Array Value} {t : TypeId} (h : RBox w B row t) (hb : Below w.heap.size w w') : RBox w' B row t := by
  have hl := h.lt
  unfold RBox at h ⊢
  rw [hb.block B hl]
  exact h
theorem RBox.alloc {w : World} {B : Nat} {row : Array Value} {t : TypeId} (h : RBox w B row t) (o : Obj) : RBox (w.alloc o) B row t := h.step ((Below.refl _ _).alloc (Nat.le_refl _) o)
theorem rbox_new (w : World) (row : Array Value) (t : TypeId) : RBox (w.alloc (.cells row t)) w.heap.size row t := heap_alloc_new w _
end Go.Proofs.YtgddbmbljlngnaaDoor
