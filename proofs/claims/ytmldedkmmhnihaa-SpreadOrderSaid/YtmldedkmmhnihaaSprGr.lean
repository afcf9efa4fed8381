/- GRAHAM'S BOUND: the walk of SpreadGraham. -/
import Derived.Test.YtmldedkmmhnihaaSprE
import Derived.Test.YtmldedkmmhnihaaSprO
namespace Go.Proofs.Ytmldedkmmhnihaa
open Go.RowKit

/-- Numbers that Wrong lets pass. -/
theorem wrong_pass {f : Nat → Int} {n : Nat} {C : Int} (h : wrongV f n C = 0) : ∃ (m : Nat) (ws : Nat → Nat), C = (m : Int) ∧ (0 < m ∧ m ≤ 8 ∧ n ≤ 400) ∧ (∀ i, i < n → ws i ≤ 1073741824) ∧ ∀ i, i < n → f i = (ws i : Int) := by
  obtain ⟨h1, h2, h3, h4⟩ := wrongV_ok h
  refine ⟨C.toNat, fun i => (f i).toNat, by omega, by omega, fun i hi => ?_, fun i hi => ?_⟩
  · have := h4 i hi
    show (f i).toNat ≤ _
    omega
  · have := h4 i hi
    show f i = ((f i).toNat : Int)
    omega
theorem wrong_two {f : Nat → Int} {n : Nat} {C : Int} (h : ¬ wrongV f n C = 0) : wrongV f n C = 2 := by
  unfold wrongV at *
  split
  · rfl
  · rename_i g; rw [if_neg g] at h; exact absurd rfl h
def Yes (W : World) (e : Ending) (w' : World) : Prop := e = .returned (.bool true) ∧ Below W.heap.size W w'
section
variable {ws : Nat → Nat} {m n : Nat}
theorem most_bound (hn : n ≤ 400) (hw : ∀ i, i < n → ws i ≤ 1073741824) {O : Nat → Nat} (hO : ∀ i, i < n → O i < n) : mostP ws m O n ≤ 429496729600 := by
  refine maxF_le fun c _ => ?_
  have h1 := load_le (m := m) hw hO n (Nat.le_refl _) c
  have h2 : n * 1073741824 ≤ 400 * 1073741824 := Nat.mul_le_mul_right _ hn
  omega
theorem tot_bound (hn : n ≤ 400) (hw : ∀ i, i < n → ws i ≤ 1073741824) : sumF ws n ≤ 429496729600 := by
  have h1 := sum_bound hw
  have h2 : n * 1073741824 ≤ 400 * 1073741824 := Nat.mul_le_mul_right _ hn
  omega
theorem graham_most (hm : 0 < m) : mostP ws m (fun i => i) n * m ≤ sumF ws n + (m - 1) * maxF ws n := by
  obtain ⟨c, _, hc⟩ := maxF_mem (planP ws m (fun i => i) n).1 hm
  rw [mostP, hc, Nat.mul_comm]
  exact graham hm (fun i hi => maxF_ge hi) c
theorem plans_max {v : Nat} {A : Nat → Nat} (h : Plans ws m n v A) : maxF ws n ≤ v := maxF_le fun _ hi => plans_piece h hi
theorem graham_best {v : Nat} (hm : 0 < m) (h : IsBest ws m n v) : mostP ws m (fun i => i) n * m ≤ v * (2 * m - 1) := by
  obtain ⟨A, hA⟩ := h.1
  have h1 := graham_most (ws := ws) (n := n) hm
  have h2 := plans_total hA
  have h3 := plans_max hA
  have h4 : (m - 1) * maxF ws n ≤ (m - 1) * v := Nat.mul_le_mul_left _ h3
  obtain ⟨q, rfl⟩ : ∃ q, m = q + 1 := ⟨m - 1, by omega⟩
  rw [Nat.add_sub_cancel] at h1 h4
  have h5 : v * (2 * (q + 1) - 1) = q * v + (q + 1) * v := by rw [show 2 * (q + 1) - 1 = q + (q + 1) by omega, Nat.mul_add, Nat.mul_comm v q, Nat.mul_comm v (q + 1)]
  rw [h5]; omega
theorem most_zero : mostP ws m (fun i => i) 0 = 0 := Nat.le_antisymm (maxF_le fun _ _ => Nat.le_refl _) (Nat.zero_le _)
end
end Go.Proofs.Ytmldedkmmhnihaa
