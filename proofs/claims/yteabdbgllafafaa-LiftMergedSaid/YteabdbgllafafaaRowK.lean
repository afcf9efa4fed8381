/- A row of elements of several cells, of the call's own, as the library's laws on sorting and turning round have it (HoldsK, putRowK). Generic: no program in sight. -/
import Derived.Test.YteabdbgllafafaaMem
import Derived.Shelf.GgSortFunc.InsertionK
namespace Go.Proofs.Yteabdbgllafafaa
open Go.RowKit Go.Sort Go.Shelf
section
variable {α : Type} [Inhabited α] (S : Shape α)
theorem flatK_eq (l : List α) : (flatK S.enc S.size l.toArray).toList = S.flat l := by
  apply List.ext_getElem?
  intro t
  have hsz : (flatK S.enc S.size l.toArray).size = l.length * S.size := by simp
  by_cases ht : t < l.length * S.size
  · have hS := S.pos
    have hd : t / S.size < l.length := Nat.div_lt_of_lt_mul (by rw [Nat.mul_comm]; exact ht)
    have hm : t % S.size < S.size := Nat.mod_lt _ hS
    have h1 := S.flat_at l (t / S.size) (t % S.size) _ (List.getElem?_eq_getElem hd) hm
    rw [Nat.mul_comm, Nat.div_add_mod] at h1
    have h2 := get_flatK S.enc S.size l.toArray t (by simpa using ht)
    rw [h1, Array.getElem?_toList, Array.getElem?_eq_getElem (by rw [hsz]; exact ht), ← getElem!_pos _ t (by rw [hsz]; exact ht), h2]
    have e1 : l.toArray[t / S.size]! = l[t / S.size] := by rw [getElem!_pos _ _ (by simpa using hd)]; simp
    rw [e1]
    have h3 : t % S.size < (S.enc l[t / S.size]).length := by rw [S.len]; exact hm
    rw [getElem!_pos (S.enc l[t / S.size]) (t % S.size) h3, List.getElem?_eq_getElem h3]
  · rw [List.getElem?_eq_none (by rw [Array.length_toList, hsz]; omega), List.getElem?_eq_none (by rw [S.flat_len]; omega)]
theorem holdsK_of {w : World} {g : Nat} {cur : Array Value} {e : TypeId} {l : List α} (hb : w.heap[g]? = some (.cells cur e (0, 0))) (ht : cur.toList.take (l.length * S.size) = S.flat l) : HoldsK S.enc S.size w g 0 l.toArray := by
  intro j hj
  have hsz : (flatK S.enc S.size l.toArray).size = l.length * S.size := by simp
  have hj' : j < l.length * S.size := by rw [← hsz]; exact hj
  refine ⟨?_, by simp [World.frozen?, hb]⟩
  have h4 : cur[j]? = (S.flat l)[j]? := by rw [← ht, List.getElem?_take_of_lt hj', Array.getElem?_toList]
  have h5 : (flatK S.enc S.size l.toArray)[j]? = (S.flat l)[j]? := by rw [← flatK_eq, Array.getElem?_toList]
  rw [cell_of_row w g _ _ _ _ hb, Nat.zero_add, id, getElem!_pos _ j hj, ← Array.getElem?_eq_getElem hj, h5, h4]
theorem heap_putK {w : World} {g n : Nat} {os : Array Obj} {cur : Array Value} {e : TypeId} {fr : Nat × Nat} (d : Array α) (hb : w.heap[g]? = some (.cells cur e fr)) :
    (grow (putRowK S.enc S.size (Sort.ahead w n) g 0 d) os).heap[g]? = some (.cells (putCells id 0 (flatK S.enc S.size d) cur) e fr) := by
  have hg : g < w.heap.size := (Array.getElem?_eq_some_iff.1 hb).1
  rw [heap_grow_old _ _ (by simpa [putRowK] using hg)]
  simp [putRowK, putRow, mapBlock, Sort.ahead, Array.getElem?_modify, hb, onCells]
theorem grownBy_putK {w : World} {g n : Nat} {os : Array Obj} (d : Array α) : w.grownBy (grow (putRowK S.enc S.size (Sort.ahead w n) g 0 d) os) (some g) := by
  refine ⟨rfl, rfl, rfl, by simp [putRowK], fun k hk hne => ?_⟩
  rw [heap_grow_old _ _ (by simpa [putRowK] using hk)]
  have : g ≠ k := fun e => hne (by rw [e])
  simp [putRowK, putRow, mapBlock, Sort.ahead, Array.getElem?_modify, this]
theorem take_putK (cur : Array Value) (m : List α) (h : m.length * S.size ≤ cur.size) : (putCells id 0 (flatK S.enc S.size m.toArray) cur).toList.take (m.length * S.size) = S.flat m := by
  have hsz : (flatK S.enc S.size m.toArray).size = m.length * S.size := by simp
  apply List.ext_getElem?
  intro j
  by_cases hj : j < m.length * S.size
  · rw [List.getElem?_take_of_lt hj, Array.getElem?_toList, ← flatK_eq S m, Array.getElem?_toList]
    simp only [putCells, Array.getElem?_mapIdx, Array.getElem?_eq_getElem (show j < cur.size by omega), Option.map_some]
    rw [if_pos ⟨Nat.zero_le _, by rw [hsz]; omega⟩, Nat.sub_zero, id, getElem!_pos _ j (by rw [hsz]; exact hj), Array.getElem?_eq_getElem (by rw [hsz]; exact hj)]
  · rw [List.getElem?_take_eq_none (by omega), List.getElem?_eq_none (by rw [S.flat_len]; omega)]
/-- Behind it the same slice owns the new list. -/
theorem ownsRow_putK {w : World} {base g cap n : Nat} {e : TypeId} {os : Array Obj} {cur : Array Value} {N : Nat} {m : List α} (hl : m.length = N) (hbase : base ≤ g) (hb : w.heap[g]? = some (.cells cur e (0, 0))) (h1 : N ≤ cap) (h2 : cap ≤ maxLen) (h3 : cur.size = cap * S.size) :
    (grow (putRowK S.enc S.size (Sort.ahead w n) g 0 m.toArray) os).ownsRow base e S.size (.slice (some ⟨g, 0, none⟩) N cap) N (S.flat m) := by
  subst hl
  exact ⟨by rw [S.flat_len], .inr ⟨g, cap, _, rfl, hbase, heap_putK S _ hb, h1, h2, by simp [putCells, h3], take_putK S cur m (by rw [h3]; exact Nat.mul_le_mul_right _ h1)⟩⟩
end
end Go.Proofs.Yteabdbgllafafaa
