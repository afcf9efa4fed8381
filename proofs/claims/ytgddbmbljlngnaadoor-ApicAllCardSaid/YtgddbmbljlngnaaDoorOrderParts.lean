/- For corebellkeep.BitsOrder: the list of all members by its places; bits.All as a slice whose cells are known. -/
import Derived.Test.YtgddbmbljlngnaaDoorBackParts
namespace Go.Proofs.YtgddbmbljlngnaaDoor
open Go.RowKit

theorem all_sorted (p : Nat → Bool) : (allOf p).Pairwise (· < ·) := List.Pairwise.filter p (List.pairwise_lt_range)
theorem all_mem (p : Nat → Bool) (n : Nat) : n ∈ allOf p ↔ n < 256 ∧ p n = true := by
  unfold allOf
  simp
/-- Where the search for the k-th member begins. -/
def fromAt (l : List Nat) (k : Nat) : Int := if k = 0 then 0 else (l.getD (k - 1) 0 : Int) + 1
theorem fromAt_succ (l : List Nat) (k : Nat) : fromAt l (k + 1) = (l.getD k 0 : Int) + 1 := by
  unfold fromAt
  rw [if_neg (by omega), Nat.add_sub_cancel]
theorem fromAt_nonneg (l : List Nat) (k : Nat) : 0 ≤ fromAt l k := by
  unfold fromAt
  split <;> omega
theorem getD_mem (l : List Nat) (k : Nat) (h : k < l.length) : l.getD k 0 ∈ l := by
  rw [List.getD_eq_getElem?_getD, List.getElem?_eq_getElem h]
  exact List.getElem_mem h
theorem getD_lt {l : List Nat} (hs : l.Pairwise (· < ·)) {i j : Nat} (hij : i < j) (hj : j < l.length) : l.getD i 0 < l.getD j 0 := by
  have hi : i < l.length := by omega
  rw [List.getD_eq_getElem?_getD, List.getD_eq_getElem?_getD, List.getElem?_eq_getElem hi, List.getElem?_eq_getElem hj]
  exact List.pairwise_iff_getElem.1 hs i j hi hj hij
theorem next_at (p : Nat → Bool) (k : Nat) (hk : k < (allOf p).length) : nextOf p (fromAt (allOf p) k) = (((allOf p).getD k 0 : Nat) : Int) := by
  have hs := all_sorted p
  have hm := (all_mem p _).1 (getD_mem _ k hk)
  refine nextOf_some hm.1 hm.2 ?_ ?_
  · unfold fromAt
    split
    · omega
    · have := getD_lt hs (i := k - 1) (j := k) (by omega) hk
      omega
  · intro m hmlt hf
    cases hp : p m
    · rfl
    · exfalso
      have hin : m ∈ allOf p := (all_mem p m).2 ⟨by omega, hp⟩
      obtain ⟨j, hj, hjm⟩ := List.getElem_of_mem hin
      have hjd : (allOf p).getD j 0 = m := by rw [List.getD_eq_getElem?_getD, List.getElem?_eq_getElem hj]; exact hjm
      by_cases hjk : j < k
      · unfold fromAt at hf
        rw [if_neg (by omega)] at hf
        by_cases e : j = k - 1
        · rw [← e, hjd] at hf; omega
        · have := getD_lt hs (i := j) (j := k - 1) (by omega) (by omega)
          omega
      · by_cases e : j = k
        · rw [e] at hjd; omega
        · have := getD_lt hs (i := k) (j := j) (by omega) hj
          omega
theorem next_end (p : Nat → Bool) : nextOf p (fromAt (allOf p) (allOf p).length) = -1 := by
  have hs := all_sorted p
  refine nextOf_none fun m hm hf => ?_
  cases hp : p m
  · rfl
  · exfalso
    have hin : m ∈ allOf p := (all_mem p m).2 ⟨by omega, hp⟩
    obtain ⟨j, hj, hjm⟩ := List.getElem_of_mem hin
    have hjd : (allOf p).getD j 0 = m := by rw [List.getD_eq_getElem?_getD, List.getElem?_eq_getElem hj]; exact hjm
    unfold fromAt at hf
    rw [if_neg (by omega)] at hf
    by_cases e : j = (allOf p).length - 1
    · rw [← e, hjd] at hf; omega
    · have := getD_lt hs (i := j) (j := (allOf p).length - 1) (by omega) (by omega)
      omega
theorem top_last (p : Nat → Bool) (h : 0 < (allOf p).length) : topOf p = (((allOf p).getD ((allOf p).length - 1) 0 : Nat) : Int) := by
  have hs := all_sorted p
  have hm := (all_mem p _).1 (getD_mem _ ((allOf p).length - 1) (by omega))
  refine topOf_some hm.1 hm.2 ?_
  intro m hlt hm2
  cases hp : p m
  · rfl
  · exfalso
    have hin : m ∈ allOf p := (all_mem p m).2 ⟨by omega, hp⟩
    obtain ⟨j, hj, hjm⟩ := List.getElem_of_mem hin
    have hjd : (allOf p).getD j 0 = m := by rw [List.getD_eq_getElem?_getD, List.getElem?_eq_getElem hj]; exact hjm
    by_cases e : j = (allOf p).length - 1
    · rw [← e, hjd] at hlt; omega
    · have := getD_lt hs (i := j) (j := (allOf p).length - 1) (by omega) (by omega)
      omega
theorem top_empty (p : Nat → Bool) (h : (allOf p).length = 0) : topOf p = -1 := by
  refine topOf_none fun m hm => ?_
  cases hp : p m
  · rfl
  · exfalso
    have hin : m ∈ allOf p := (all_mem p m).2 ⟨hm, hp⟩
    rw [List.length_eq_zero_iff.1 h] at hin
    simp at hin
theorem mem_at (p : Nat → Bool) (k : Nat) (hk : k < (allOf p).length) : p ((allOf p).getD k 0) = true ∧ (allOf p).getD k 0 < 256 := by
  have hm := (all_mem p _).1 (getD_mem _ k hk)
  exact ⟨hm.2, hm.1⟩

/-- The cells of a list of numbers. -/
def Lies (w : World) (g : Nat) (l : List Nat) : Prop := ∀ j, j < l.length → w.cell? ⟨g, j, none⟩ = some (.int .i64 ((l.getD j 0 : Nat) : Int))
theorem Lies.step {w w' : World} {g : Nat} {l : List Nat} (h : Lies w g l) (hb : Below w.heap.size w w') : Lies w' g l :=
  fun j hj => (hb.cell (block_lt_of_cell (h j hj))).trans (h j hj)
theorem all_some (a b c d : Nat) (w : World) (h : Hid (Ok a b c d)) (hT : Tab w) (hn : 0 < (allOf (mem a b c d)).length) :
    Calls Tryd.prog 17 #[.agg #[.int .u64 a, .int .u64 b, .int .u64 c, .int .u64 d]] w fun e w' =>
      ∃ g cap, e = .returned (.slice (some ⟨g, 0, none⟩) (allOf (mem a b c d)).length cap) ∧ Lies w' g (allOf (mem a b c d)) ∧ Below w.heap.size w w' := by
  refine (all_any a b c d w h.out hT).mono ?_
  rintro e w' ⟨v, rfl, hown, hb⟩
  have hown' := hown
  obtain ⟨h1, h2⟩ := hown
  rcases h2 with ⟨_, h2⟩ | ⟨g, cap, cur, rfl, hg, hh, hn', hm, hs, ht⟩
  · omega
  · refine ⟨g, cap, rfl, ?_, hb⟩
    intro j hj
    rw [hown'.cellAt j (by omega)]
    unfold ints
    rw [List.getElem?_map, List.getElem?_eq_getElem hj, List.getD_eq_getElem?_getD, List.getElem?_eq_getElem hj]
    rfl
end Go.Proofs.YtgddbmbljlngnaaDoor
