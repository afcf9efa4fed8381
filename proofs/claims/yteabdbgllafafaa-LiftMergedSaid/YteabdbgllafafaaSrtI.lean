/- slices.Sort at a row of numbers of the call's own, nil too. Generic. -/
import Derived.Test.YteabdbgllafafaaLaidS
import Derived.Test.YteabdbgllafafaaNum
import Derived.Sort.OwnSortedInts
namespace Go.Proofs.Yteabdbgllafafaa
open Go.RowKit Go.Sort

theorem flat_int (l : List Int) : shI.flat l = l.map (Value.int .i64) := by
  induction l with
  | nil => rfl
  | cons a r ih => rw [show shI.flat (a :: r) = shI.enc a ++ shI.flat r from rfl, ih]; rfl
/-- The row in order. -/
abbrev sortI (zs : List Int) : List Int := zs.mergeSort fun x y => decide (x ≤ y)
theorem sortI_len (zs : List Int) : (sortI zs).length = zs.length := by simp [sortI]
theorem srt_grown (w : World) (r : Option Nat) : w.grownBy w r := ⟨rfl, rfl, rfl, Nat.le_refl _, fun _ _ _ => rfl⟩
theorem sortI_row {base n c : Nat} {ad : Option Addr} {l : List Int} (w : World) (HO : Hid (w.ownsRow base 3 1 (.slice ad n c) n (shI.flat l))) (hl : Hid (l.length = n)) (hn : n < 4611686018427387904) :
    Calls Try.prog 37 #[.slice ad n c] w fun e w' => e = .returned (.tuple #[]) ∧ w'.ownsRow base 3 1 (.slice ad n c) n (shI.flat (sortI l)) ∧ w.grownBy w' (Value.slice ad n c).ownBlock := by
  have e := hl.out
  subst e
  by_cases h0 : l.length = 0
  · have hl0 : l = [] := List.eq_nil_of_length_eq_zero h0
    have ho := HO.out
    subst hl0
    refine (sort_nil ad c w).mono ?_
    rintro e w' ⟨rfl, rfl⟩
    exact ⟨rfl, by simpa [sortI] using ho, srt_grown _ _⟩
  · rcases HO.out.2 with ⟨_, h3⟩ | ⟨g, cap, cur, hv, hbase, hgb, r1, r2, r3, r4⟩
    · exact absurd h3 h0
    · simp only [Value.slice.injEq, true_and] at hv
      obtain ⟨rfl, rfl⟩ := hv
      have hH : Holds (Value.int .i64) w g 0 l.toArray := holds_of_blockI hgb (by rw [← flat_int]; simpa using r4)
      have hgl : g < w.heap.size := (Array.getElem?_eq_some_iff.1 hgb).1
      refine (sort_any g 0 c l w hH hgl hn).mono ?_
      rintro e w' ⟨rfl, nn, os, rfl⟩
      refine ⟨rfl, ?_, grownBy_sortedI (sortI l).toArray⟩
      rw [flat_int]
      exact ownsRow_sortedI (n := nn) (os := os) (ts := sortI l) (sortI_len l) hbase hgb r1 r2 r3
end Go.Proofs.Yteabdbgllafafaa
