/- slices.Reverse at a row of numbers of the call's own, cut in front or not. -/
import Derived.Test.YteabdbgllafafaaRevS
import Derived.Test.YteabdbgllafafaaDelI
namespace Go.Proofs.Yteabdbgllafafaa
open Go.Shelf Go.RowKit

theorem reverse_que {base e n c : Nat} {ad : Option Addr} {l : List Int} (w : World) (HO : Hid (Que shI w base e (.slice ad n c) n l)) :
    Calls Try.prog 35 #[.slice ad n c] w fun e' w' => e' = .returned (.tuple #[]) ∧ Que shI w' base e (.slice ad n c) n l.reverse ∧ w.grownBy w' (Value.slice ad n c).ownBlock ∧ (∀ g o, ad = some ⟨g, o, none⟩ → ∀ i, i < o ∨ o + n ≤ i → w'.cell? ⟨g, i, none⟩ = w.cell? ⟨g, i, none⟩) := by
  obtain ⟨h1, h2⟩ := HO.out
  by_cases h0 : n = 0
  · subst h0
    have hl0 : l = [] := List.eq_nil_of_length_eq_zero h1
    refine (rev_nil ad c w).mono ?_
    rintro e' w' ⟨rfl, rfl⟩
    refine ⟨rfl, ?_, ⟨rfl, rfl, rfl, Nat.le_refl _, fun _ _ _ => rfl⟩, fun _ _ _ _ _ => rfl⟩
    have h := HO.out
    rw [hl0] at h
    rw [hl0]
    exact h
  · rcases h2 with ⟨_, h3⟩ | ⟨g, off, cap, cur, hv, hg, hh, hn, hc, hs, ht⟩
    · omega
    · simp only [Value.slice.injEq, true_and] at hv
      obtain ⟨rfl, rfl⟩ := hv
      subst h1
      have hH := que_holds rfl hh ht
      have hcm := hc
      unfold maxLen at hcm
      refine (rev_any g off c l w hH (by omega)).mono ?_
      rintro e' w' ⟨rfl, q, rfl⟩
      have hs1 : shI.size = 1 := rfl
      rw [hs1, Nat.mul_one] at hs
      have hb := heap_putRow (q := q) (off := off) l.reverse.toArray hh
      have hsz : l.reverse.toArray.size = l.length := by simp
      refine ⟨rfl, ⟨by simp, Or.inr ⟨g, off, c, _, rfl, hg, hb, hn, hc, ?_, fun i hi => ?_⟩⟩, grown_putRow _, ?_⟩
      · rw [hs1]
        simp [Sort.putCells]
        omega
      · rw [hs1, Nat.mul_one] at hi
        have hLi : i < l.reverse.length := by simpa using hi
        rw [flat_intD, List.getElem?_map, List.getElem?_eq_getElem hLi]
        have hci : off + i < cur.size := by omega
        simp only [Sort.putCells, Array.getElem?_mapIdx, Array.getElem?_eq_getElem hci, Option.map_some]
        rw [if_pos ⟨by omega, by rw [hsz]; omega⟩, show off + i - off = i by omega, getElem!_pos _ _ (by rw [hsz]; omega)]
        simp
      · intro g' o' e0 i hi
        cases e0
        rw [cell_of_row _ g i _ _ _ hb, cell_of_row _ g i _ _ _ hh]
        simp only [Sort.putCells, Array.getElem?_mapIdx]
        cases hc0 : cur[i]? with
        | none => rfl
        | some v =>
          rw [Option.map_some, if_neg (by rw [hsz]; omega)]
end Go.Proofs.Yteabdbgllafafaa
