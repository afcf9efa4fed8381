/- The largest first: the walk of SpreadThird. -/
import Derived.Test.YtmldedkmmhnihaaSprGr
namespace Go.Proofs.Ytmldedkmmhnihaa
open Go.RowKit

def boxP (B n : Nat) (mo : Nat) : Obj := .cells #[.slice (some ⟨B, 0, none⟩) n n, .int .i64 (mo : Int)] 51
theorem box_most (w : World) (B n mo : Nat) : (w.alloc (boxP B n mo)).cell? ⟨w.heap.size, 1, none⟩ = some (.int .i64 (mo : Int)) := by
  unfold boxP
  rw [cell_of_row _ _ 1 _ _ _ (heap_alloc_new w _)]; rfl
theorem box_core (w : World) (B n mo : Nat) : (w.alloc (boxP B n mo)).cell? ⟨w.heap.size, 0, none⟩ = some (.slice (some ⟨B, 0, none⟩) n n) := by
  unfold boxP
  rw [cell_of_row _ _ 0 _ _ _ (heap_alloc_new w _)]; rfl
theorem srt_dec {ws O : Nat → Nat} {n : Nat} (h : Srt ws O 0 n) : ∀ i j, i ≤ j → j < n → ws (O j) ≤ ws (O i) := fun i j hij hj => by
  by_cases e : i = j
  · rw [e]; exact Nat.le_refl _
  · have := h i j (Nat.zero_le _) (by omega) hj
    unfold Lt at this
    omega
theorem third_best {ws O : Nat → Nat} {m n v : Nat} (hm : 0 < m) (hp : Perm O n) (hs : Srt ws O 0 n) (h : IsBest ws m n v) : 3 * m * mostP ws m O n ≤ v * (4 * m - 1) := by
  obtain ⟨A, hA⟩ := h.1
  have := third hm hp (srt_dec hs) hA
  rw [Nat.mul_assoc, Nat.mul_comm v]
  exact this
end Go.Proofs.Ytmldedkmmhnihaa
