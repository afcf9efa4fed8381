/- Plain facts: the numbers of plans, and the least of them. No program in sight. -/
import Derived.Test.YtocemkbplgkalaaSprZ
namespace Go.Proofs.Ytocemkbplgkalaa

/-- What is left of a plan's number behind i pieces. -/
def nn (m N : Nat) : Nat → Nat
  | 0 => N
  | i + 1 => nn m N i / m
/-- Who has the i-th piece. -/
def dg (m N i : Nat) : Nat := nn m N i % m
theorem nn_shift (m N : Nat) : ∀ i, nn m N (i + 1) = nn m (N / m) i
  | 0 => rfl
  | i + 1 => by
    show nn m N (i + 1) / m = nn m (N / m) i / m
    rw [nn_shift m N i]
theorem nn_le (m N : Nat) : ∀ i, nn m N i ≤ N
  | 0 => Nat.le_refl _
  | i + 1 => Nat.le_trans (Nat.div_le_self _ _) (nn_le m N i)
/-- How many plans there are. -/
def pw (m : Nat) : Nat → Nat
  | 0 => 1
  | k + 1 => pw m k * m
theorem pw_le {m : Nat} (hm : m ≤ 8) : ∀ k, pw m k ≤ 8 ^ k
  | 0 => Nat.le_refl _
  | k + 1 => by
    show pw m k * m ≤ 8 ^ k * 8
    exact Nat.mul_le_mul (pw_le hm k) hm
theorem pw_bound {m k : Nat} (hm : m ≤ 8) (hk : k ≤ 9) : pw m k ≤ 134217728 := Nat.le_trans (pw_le hm k) (Nat.le_trans (Nat.pow_le_pow_right (by omega) hk) (by decide))
/-- The number of a plan. -/
def en (m : Nat) : Nat → (Nat → Nat) → Nat
  | 0, _ => 0
  | k + 1, A => A 0 + m * en m k (fun i => A (i + 1))
theorem en_lt {m : Nat} : ∀ {k : Nat} {A : Nat → Nat}, (∀ i, i < k → A i < m) → en m k A < pw m k
  | 0, _, _ => by show 0 < 1; omega
  | k + 1, A, h => by
    have h1 := en_lt (m := m) (k := k) (A := fun i => A (i + 1)) fun i hi => h (i + 1) (by omega)
    have h2 := h 0 (by omega)
    show A 0 + m * en m k (fun i => A (i + 1)) < pw m k * m
    have h3 : m * (en m k (fun i => A (i + 1)) + 1) ≤ m * pw m k := Nat.mul_le_mul_left _ h1
    rw [Nat.mul_add, Nat.mul_one] at h3
    rw [Nat.mul_comm (pw m k)]
    omega
theorem en_dg {m : Nat} (hm : 0 < m) : ∀ {k : Nat} {A : Nat → Nat}, (∀ i, i < k → A i < m) → ∀ i, i < k → dg m (en m k A) i = A i
  | k + 1, A, h, i, hi => by
    have h2 := h 0 (by omega)
    have e1 : (A 0 + m * en m k (fun i => A (i + 1))) % m = A 0 := by rw [Nat.add_mul_mod_self_left, Nat.mod_eq_of_lt h2]
    have e2 : (A 0 + m * en m k (fun i => A (i + 1))) / m = en m k (fun i => A (i + 1)) := by rw [Nat.add_mul_div_left _ _ hm, Nat.div_eq_of_lt h2, Nat.zero_add]
    cases i with
    | zero => exact e1
    | succ i =>
      have h1 := en_dg hm (k := k) (A := fun i => A (i + 1)) (fun i hi => h (i + 1) (by omega)) i (by omega)
      show nn m (A 0 + m * en m k (fun i => A (i + 1))) (i + 1) % m = A (i + 1)
      rw [nn_shift, e2]
      exact h1
/-- Most of the plan with this number. -/
def mxN (ws : Nat → Nat) (m n N : Nat) : Nat := maxF (fun c => lod ws (dg m N) c n) m
/-- The least of the first N plans. -/
def LeastTo (ws : Nat → Nat) (m n N b : Nat) : Prop := b ≤ 4611686018427387904 ∧ (b = 4611686018427387904 ∨ ∃ K, K < N ∧ b = mxN ws m n K) ∧ ∀ K, K < N → b ≤ mxN ws m n K
theorem LeastTo.start (ws : Nat → Nat) (m n : Nat) : LeastTo ws m n 0 4611686018427387904 := ⟨Nat.le_refl _, Or.inl rfl, fun K h => by omega⟩
theorem LeastTo.step {ws : Nat → Nat} {m n N b : Nat} (h : LeastTo ws m n N b) : LeastTo ws m n (N + 1) (min b (mxN ws m n N)) := by
  obtain ⟨h1, h2, h3⟩ := h
  refine ⟨Nat.le_trans (Nat.min_le_left _ _) h1, ?_, fun K hK => ?_⟩
  · by_cases g : b ≤ mxN ws m n N
    · rw [Nat.min_eq_left g]
      rcases h2 with h2 | ⟨K, hK, e⟩
      · exact Or.inl h2
      · exact Or.inr ⟨K, by omega, e⟩
    · rw [Nat.min_eq_right (by omega)]
      exact Or.inr ⟨N, by omega, rfl⟩
  · by_cases e : K = N
    · rw [e]; exact Nat.min_le_right _ _
    · exact Nat.le_trans (Nat.min_le_left _ _) (h3 K (by omega))
theorem dg_lt {m : Nat} (hm : 0 < m) (N i : Nat) : dg m N i < m := Nat.mod_lt _ hm
theorem mxN_plans {ws : Nat → Nat} {m n N : Nat} (hm : 0 < m) : Plans ws m n (mxN ws m n N) (dg m N) := ⟨fun i _ => dg_lt hm N i, fun _ hc => maxF_ge (f := fun c => lod ws (dg m N) c n) hc⟩
theorem LeastTo.best {ws : Nat → Nat} {m n b : Nat} (hm : 0 < m) (h : LeastTo ws m n (pw m n) b) (hb : ∀ N, mxN ws m n N ≤ 9663676416) : IsBest ws m n b := by
  obtain ⟨h1, h2, h3⟩ := h
  constructor
  · rcases h2 with h2 | ⟨K, hK, e⟩
    · have h0 : 0 < pw m n := by
        have := en_lt (m := m) (k := n) (A := fun _ => 0) fun _ _ => hm
        omega
      have := h3 0 h0
      have := hb 0
      omega
    · exact ⟨_, e ▸ mxN_plans hm⟩
  · intro u A hu hA
    have h4 := h3 (en m n A) (en_lt hA.1)
    have h5 : mxN ws m n (en m n A) ≤ u := by
      refine maxF_le fun c hc => ?_
      have : lod ws (dg m (en m n A)) c n = lod ws A c n := sumF_congr fun i hi => by simp only [en_dg hm hA.1 i hi]
      rw [this]; exact hA.2 c hc
    omega
end Go.Proofs.Ytocemkbplgkalaa
