/- slices.Delete at []int, at a row of the call's own that may have been cut in front: the library's own contract, instantiated by the numbers of this translation. Generic. -/
import Derived.Shelf.SlGeneric
import Derived.Shelf.Slices.Delete
import Derived.Test.YtgnpodeneknpdaaQue
import Derived.Test.YtgnpodeneknpdaaNum
namespace Go.Proofs.Ytgnpodeneknpdaa
open Go.Shelf Go.RowKit
theorem flat_int (l : List Int) : shI.flat l = l.map (Value.int .i64) := by
  induction l with
  | nil => rfl
  | cons a r ih => rw [show shI.flat (a :: r) = shI.enc a ++ shI.flat r from rfl, ih]; rfl
theorem que_holds {w : World} {g off n : Nat} {e : TypeId} {l : List Int} {cur : Array Value} (hl : l.length = n) (hh : w.heap[g]? = some (.cells cur e (0, 0))) (hc : ∀ i, i < n * shI.size → cur[off + i]? = (shI.flat l)[i]?) : Sort.Holds (Value.int .i64) w g off l.toArray := by
  intro j hj
  have hj' : j < l.length := by simpa using hj
  refine ⟨?_, by simp [World.frozen?, hh]⟩
  have hs : shI.size = 1 := rfl
  rw [cell_of_row w g _ _ _ _ hh, hc j (by rw [hs]; omega), flat_int]
  simp [hj']
/-- Cells written in the middle of a block. -/
theorem heap_putRow {w : World} {g q off : Nat} {cur : Array Value} {e : TypeId} {fr : Nat × Nat} (d : Array Int) (hb : w.heap[g]? = some (.cells cur e fr)) :
    (Sort.putRow (Value.int .i64) (Sort.ahead w q) g off d).heap[g]? = some (.cells (Sort.putCells (Value.int .i64) off d cur) e fr) := by
  simp [Sort.putRow, Sort.mapBlock, Sort.ahead, Array.getElem?_modify, hb, Sort.onCells]
theorem grown_putRow {w : World} {g q off : Nat} (d : Array Int) : w.grownBy (Sort.putRow (Value.int .i64) (Sort.ahead w q) g off d) (some g) := by
  refine ⟨rfl, rfl, rfl, by simp, fun k hk hne => ?_⟩
  have : g ≠ k := fun e => hne (by rw [e])
  simp [Sort.putRow, Sort.mapBlock, Sort.ahead, Array.getElem?_modify, this]
/-- Which one it is. -/
theorem filter_cut {l : List Int} (h : l.Pairwise fun a b => ¬ a = b) {k : Nat} {i : Int} (hk : l[k]? = some i) : l.take k ++ l.drop (k + 1) = l.filter fun x => decide (¬ x = i) := by
  induction l generalizing k with
  | nil => cases hk
  | cons a r ih =>
    rw [List.pairwise_cons] at h
    cases k with
    | zero =>
      simp only [List.getElem?_cons_zero, Option.some.injEq] at hk
      subst hk
      rw [List.filter_cons_of_neg (by simp), List.take_zero, List.nil_append, List.drop_succ_cons, List.drop_zero]
      exact (List.filter_eq_self.2 fun b hb => by simpa using fun q : b = a => h.1 b hb q.symm).symm
    | succ k =>
      rw [List.getElem?_cons_succ] at hk
      have hm := List.mem_of_getElem? hk
      rw [List.filter_cons_of_pos (by simpa using h.1 i hm), List.take_succ_cons, List.cons_append, List.drop_succ_cons, ih h.2 hk]
end Go.Proofs.Ytgnpodeneknpdaa
