/- A row of error codes in a block of the call's own, made at its full length and written one by one. Generic. -/
import Derived.Test.YtipkmmajhhcadaaNum
namespace Go.Proofs.Ytipkmmajhhcadaa
open Go.RowKit

/-- Error codes so far, in a block of the call's own. -/
def ErrRow (w : World) (E n : Nat) (l : List Int) : Prop := ∃ cur, w.heap[E]? = some (.cells cur 27 (0, 0)) ∧ cur.size = n ∧ ∀ (j : Nat) (x : Int), l[j]? = some x → cur[j]? = some (.int .i64 x)
theorem err_at {w : World} {E n : Nat} {l : List Int} (r : ErrRow w E n l) (cap : Nat) : shI.At w (some ⟨E, 0, none⟩) cap l := by
  obtain ⟨cur, hc, _, hi⟩ := r
  refine ⟨fun e => (by cases e), fun _ => ⟨E, 0, rfl, (Array.getElem?_eq_some_iff.1 hc).1, fun k hk => ?_⟩⟩
  have hk' : k < l.length := by have : shI.size = 1 := rfl; rw [this] at hk; omega
  have hj : l[k]? = some l[k] := List.getElem?_eq_getElem hk'
  have hf := shI.flat_at l k 0 _ hj (by decide)
  have hs : shI.size = 1 := rfl
  rw [hs, Nat.mul_one, Nat.add_zero] at hf
  rw [Nat.zero_add, cell_of_row w E k _ _ _ hc, hf, hi k _ hj]
  rfl
theorem ErrRow.same {w w' : World} {E n : Nat} {l : List Int} (r : ErrRow w E n l) (h : w'.heap[E]? = w.heap[E]?) : ErrRow w' E n l := by
  obtain ⟨cur, hc, r⟩ := r
  exact ⟨cur, h.trans hc, r⟩
theorem ErrRow.lt {w : World} {E n : Nat} {l : List Int} (r : ErrRow w E n l) : E < w.heap.size := by obtain ⟨cur, hc, _⟩ := r; exact heap_lt hc
theorem ErrRow.put {w : World} {E n k : Nat} {l : List Int} (r : ErrRow w E n l) (hk : l.length = k) (hkn : k < n) (e : Int) : ErrRow (w.setCell ⟨E, k, none⟩ (.int .i64 e)) E n (l ++ [e]) := by
  obtain ⟨cur, hc, hs, hi⟩ := r
  refine ⟨_, heap_setCell_same w E k cur _ (.int .i64 e) hc, by simpa using hs, fun j x hj => ?_⟩
  rw [List.getElem?_append] at hj
  split at hj
  · rename_i hlt
    rw [Array.getElem?_setIfInBounds_ne (by omega)]
    exact hi j x hj
  · have e0 : j = k := by
      by_cases h : j = k
      · exact h
      · rw [List.getElem?_singleton, if_neg (by omega)] at hj
        cases hj
    subst e0
    rw [hk, Nat.sub_self] at hj
    simp at hj
    subst hj
    simp [Array.getElem?_setIfInBounds]
    omega
theorem ErrRow.cell {w : World} {E n k : Nat} {l : List Int} (r : ErrRow w E n l) (hk : k < n) : (∃ z, w.cell? ⟨E, k, none⟩ = some z) ∧ ∀ i, w.frozen? ⟨E, i, none⟩ = false := by
  obtain ⟨cur, hc, hs, _⟩ := r
  exact ⟨by rw [cell_of_row w E k _ _ _ hc]; exact ⟨_, Array.getElem?_eq_getElem (by omega)⟩, fun i => frozen_of_row w E i cur _ hc⟩
theorem ErrRow.get {w : World} {E n k : Nat} {l : List Int} {x : Int} (r : ErrRow w E n l) (h : l[k]? = some x) : w.cell? ⟨E, k, none⟩ = some (.int .i64 x) := by
  obtain ⟨cur, hc, hs, hi⟩ := r
  rw [cell_of_row w E k _ _ _ hc]
  exact hi k x h
end Go.Proofs.Ytipkmmajhhcadaa
