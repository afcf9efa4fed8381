/- Plain facts for corebellref.OPlay: where somebody stands, waking again and again. -/
import Derived.Test.YtghonbiiichedaaWtP
namespace Go.Proofs.Ytghonbiiichedaa
open Go.RowKit

/-- Where he stands, or -1. -/
def AtV (l : List WtT) (t r : Int) : Prop := (r = -1 ∧ ∀ q ∈ l, ¬ q.1 = t) ∨ ∃ (k : Nat) (x : Nat), r = (k : Int) ∧ l[k]? = some (t, x)
theorem at_start (l : List WtT) (t : Int) : AtV (l.take 0) t (-1) := Or.inl ⟨rfl, fun q h => by simp at h⟩
theorem at_next {l : List WtT} {j : Nat} {q : WtT} {t r : Int} (hq : l[j]? = some q) (h : AtV (l.take j) t r) : AtV (l.take (j + 1)) t (if q.1 = t then (j : Int) else r) := by
  have hj := (List.getElem?_eq_some_iff.1 hq).1
  have e : l.take (j + 1) = l.take j ++ [q] := by rw [List.take_add_one, hq]; rfl
  by_cases h1 : q.1 = t
  · rw [if_pos h1]
    refine Or.inr ⟨j, q.2, rfl, ?_⟩
    rw [List.getElem?_take_of_lt (by omega), hq, ← h1]
  · rw [if_neg h1]
    rcases h with ⟨h2, h3⟩ | ⟨k, x, h2, h3⟩
    · refine Or.inl ⟨h2, fun p hp => ?_⟩
      rw [e] at hp
      rcases List.mem_append.1 hp with h4 | h4
      · exact h3 p h4
      · rw [List.mem_singleton] at h4
        rw [h4]
        exact h1
    · refine Or.inr ⟨k, x, h2, ?_⟩
      have hk := (List.getElem?_eq_some_iff.1 h3).1
      rw [e, List.getElem?_append_left hk]
      exact h3
theorem at_none {l : List WtT} {t r : Int} (h : AtV l t r) (hs : stV l t = none) : r = -1 := by
  rcases h with ⟨h, _⟩ | ⟨k, x, _, hk⟩
  · exact h
  · exact absurd rfl (stV_none.1 hs _ (List.mem_of_getElem? hk))
theorem at_some {l : List WtT} {t r : Int} {y : Nat} (hn : NodW l) (h : AtV l t r) (hs : stV l t = some y) : ∃ k : Nat, r = (k : Int) ∧ l[k]? = some (t, y) := by
  rcases h with ⟨_, h⟩ | ⟨k, x, hr, hk⟩
  · rw [stV_none.2 h] at hs
    cases hs
  · have := (stV_some hn).2 (List.mem_of_getElem? hk)
    rw [hs] at this
    cases this
    exact ⟨k, hr, hk⟩
/-- Waking j times. -/
def wakesV : Nat → List WtT → List WtT
  | 0, l => l
  | j + 1, l => wakeV (wakesV j l)
theorem wakes_names (l : List WtT) : ∀ j, (wakesV j l).map (·.1) = l.map (·.1)
  | 0 => rfl
  | j + 1 => by rw [wakesV, wake_names, wakes_names l j]
def restW (l : List WtT) : Nat := (l.filter fun q => decide (¬ q.2 = 2)).length
theorem rest_wake : ∀ l : List WtT, restW (wakeV l) = restW l - 1
  | [] => rfl
  | q :: r => by
    unfold wakeV
    by_cases h : q.2 = 2
    · rw [if_pos h]
      have ih := rest_wake r
      unfold restW at *
      rw [List.filter_cons_of_neg (by simpa using h), List.filter_cons_of_neg (by simpa using h)]
      exact ih
    · rw [if_neg h]
      unfold restW
      rw [List.filter_cons_of_neg (by simp), List.filter_cons_of_pos (by simpa using h), List.length_cons]
      rfl
theorem rest_wakes (l : List WtT) : ∀ j, restW (wakesV j l) = restW l - j
  | 0 => rfl
  | j + 1 => by rw [wakesV, rest_wake, rest_wakes l j]; omega
theorem rest_le (l : List WtT) : restW l ≤ l.length := List.length_filter_le _ _
theorem rest_zero {l : List WtT} (h : restW l = 0) : l = l.map fun q => (q.1, 2) := by
  unfold restW at h
  have h1 := List.filter_eq_nil_iff.1 (List.eq_nil_of_length_eq_zero h)
  conv => lhs; rw [← List.map_id l]
  refine List.map_congr_left fun q hq => ?_
  have := h1 q hq
  have h2 : q.2 = 2 := by simpa using this
  show q = (q.1, 2)
  rw [← h2]
theorem wakes_all {l : List WtT} {n : Nat} (h : l.length ≤ n) : wakesV n l = l.map fun q => (q.1, 2) := by
  have h1 := rest_zero (l := wakesV n l) (by rw [rest_wakes]; have := rest_le l; omega)
  rw [h1]
  have e : ∀ l : List WtT, (l.map fun q => ((q.1, 2) : WtT)) = (l.map (·.1)).map fun t => (t, 2) := fun l => by rw [List.map_map]; rfl
  rw [e, e l, wakes_names]
theorem nod_wakes {l : List WtT} (h : NodW l) (j : Nat) : NodW (wakesV j l) := nod_names (wakes_names l j) h
theorem nod_out {l : List WtT} (h : NodW l) (t : Int) : NodW (outV l t) := h.filter _
theorem ow_oneAt (X : World) (a : WtT) (cap : Nat) : shQ.At (X.alloc (.cells #[.int .i64 a.1, .int .i64 (a.2 : Nat)] 46)) (some ⟨X.heap.size, 0, none⟩) cap [a] :=
  Shape.At.lit (S := shQ) [a] (heap_alloc_new X _)
theorem int_litE (X : World) (x : Int) (cap : Nat) : shI.At (X.alloc (.cells #[.int .i64 x] 28)) (some ⟨X.heap.size, 0, none⟩) cap [x] :=
  Shape.At.lit (S := shI) [x] (heap_alloc_new X _)
end Go.Proofs.Ytghonbiiichedaa
