/- Plain facts on plans of work: the least load, a plan's loads. No program in sight. -/
namespace Go.Proofs.Ytningajaimbncaa

def upd (f : Nat → Nat) (i v : Nat) : Nat → Nat := fun j => if j = i then v else f j
theorem upd_same (f : Nat → Nat) (i v : Nat) : upd f i v i = v := if_pos rfl
theorem upd_other {f : Nat → Nat} {i v j : Nat} (h : ¬ j = i) : upd f i v j = f j := if_neg h
/-- The first with the least, of the first k. -/
def amin (L : Nat → Nat) : Nat → Nat
  | 0 => 0
  | k + 1 => if L k < L (amin L k) then k else amin L k
theorem amin_spec (L : Nat → Nat) : ∀ k, 0 < k → amin L k < k ∧ (∀ d, d < k → L (amin L k) ≤ L d) ∧ ∀ d, d < amin L k → L (amin L k) < L d
  | 1, _ => by
    have e : amin L 1 = 0 := by simp [amin]
    rw [e]
    exact ⟨by omega, fun d hd => by rw [show d = 0 by omega]; exact Nat.le_refl _, fun d hd => by omega⟩
  | k + 2, _ => by
    obtain ⟨h1, h2, h3⟩ := amin_spec L (k + 1) (by omega)
    have e : amin L (k + 2) = if L (k + 1) < L (amin L (k + 1)) then k + 1 else amin L (k + 1) := rfl
    by_cases g : L (k + 1) < L (amin L (k + 1))
    · rw [e, if_pos g]
      refine ⟨by omega, fun d hd => ?_, fun d hd => ?_⟩
      · by_cases hdk : d = k + 1
        · rw [hdk]; exact Nat.le_refl _
        · have := h2 d (by omega); omega
      · have := h2 d (by omega); omega
    · rw [e, if_neg g]
      refine ⟨by omega, fun d hd => ?_, h3⟩
      by_cases hdk : d = k + 1
      · rw [hdk]; omega
      · exact h2 d (by omega)
def minF (f : Nat → Nat) : Nat → Nat
  | 0 => f 0
  | k + 1 => min (minF f k) (f (k + 1))
theorem minF_amin (L : Nat → Nat) : ∀ k, minF L k = L (amin L (k + 1))
  | 0 => by simp [minF, amin]
  | k + 1 => by
    have e : amin L (k + 2) = if L (k + 1) < L (amin L (k + 1)) then k + 1 else amin L (k + 1) := rfl
    rw [minF, minF_amin L k, e]
    split <;> omega
def maxF (f : Nat → Nat) : Nat → Nat
  | 0 => 0
  | k + 1 => max (maxF f k) (f k)
theorem maxF_ge {f : Nat → Nat} : ∀ {k i : Nat}, i < k → f i ≤ maxF f k
  | k + 1, i, h => by
    rw [maxF]
    by_cases e : i = k
    · rw [e]; omega
    · have := maxF_ge (f := f) (show i < k by omega)
      omega
theorem maxF_le {f : Nat → Nat} {b : Nat} : ∀ {k : Nat}, (∀ i, i < k → f i ≤ b) → maxF f k ≤ b
  | 0, _ => Nat.zero_le _
  | k + 1, h => by
    have h1 := maxF_le (k := k) fun i hi => h i (by omega)
    have h2 := h k (by omega)
    rw [maxF]; omega
theorem maxF_mem (f : Nat → Nat) : ∀ {k : Nat}, 0 < k → ∃ i, i < k ∧ maxF f k = f i
  | 1, _ => ⟨0, by omega, by simp [maxF]⟩
  | k + 2, _ => by
    obtain ⟨i, hi, e⟩ := maxF_mem f (k := k + 1) (by omega)
    have e2 : maxF f (k + 2) = max (maxF f (k + 1)) (f (k + 1)) := rfl
    by_cases g : f i ≤ f (k + 1)
    · exact ⟨k + 1, by omega, by rw [e2, e]; omega⟩
    · exact ⟨i, by omega, by rw [e2, e]; omega⟩
theorem maxF_congr {f g : Nat → Nat} : ∀ {k : Nat}, (∀ i, i < k → f i = g i) → maxF f k = maxF g k
  | 0, _ => rfl
  | k + 1, h => by rw [maxF, maxF, maxF_congr (k := k) fun i hi => h i (by omega), h k (by omega)]
/-- A piece goes to the core with the least. -/
def putP (ws : Nat → Nat) (m : Nat) (st : (Nat → Nat) × (Nat → Nat)) (k : Nat) : (Nat → Nat) × (Nat → Nat) :=
  (upd st.1 (amin st.1 m) (st.1 (amin st.1 m) + ws k), upd st.2 k (amin st.1 m))
/-- The first j pieces of an order. -/
def planP (ws : Nat → Nat) (m : Nat) (O : Nat → Nat) : Nat → (Nat → Nat) × (Nat → Nat)
  | 0 => (fun _ => 0, fun _ => 0)
  | j + 1 => putP ws m (planP ws m O j) (O j)
theorem load_le {ws : Nat → Nat} {m n : Nat} {O : Nat → Nat} (hw : ∀ i, i < n → ws i ≤ 1073741824) (hO : ∀ j, j < n → O j < n) : ∀ j, j ≤ n → ∀ c, (planP ws m O j).1 c ≤ j * 1073741824
  | 0, _, c => by simp [planP]
  | j + 1, h, c => by
    have h1 := load_le (m := m) hw hO j (by omega)
    have h2 := hw (O j) (hO j (by omega))
    show upd _ _ _ c ≤ _
    unfold upd
    split
    · have := h1 (amin (planP ws m O j).1 m); omega
    · exact Nat.le_trans (h1 c) (Nat.mul_le_mul_right _ (Nat.le_succ j))
/-- What package spread's Wrong says. -/
def badW (f : Nat → Int) : Nat → Bool
  | 0 => false
  | k + 1 => badW f k || decide (f k < 0) || decide (1073741824 < f k)
theorem badW_iff (f : Nat → Int) : ∀ k, badW f k = false ↔ ∀ i, i < k → 0 ≤ f i ∧ f i ≤ 1073741824
  | 0 => by simp [badW]
  | k + 1 => by
    simp only [badW, Bool.or_eq_false_iff, badW_iff f k, decide_eq_false_iff_not]
    constructor
    · rintro ⟨⟨h1, h2⟩, h3⟩ i hi
      by_cases e : i = k
      · rw [e]; omega
      · exact h1 i (by omega)
    · intro h
      have := h k (by omega)
      exact ⟨⟨fun i hi => h i (by omega), by omega⟩, by omega⟩
def wrongV (f : Nat → Int) (n : Nat) (C : Int) : Int := if C < 1 ∨ 8 < C ∨ 400 < n ∨ badW f n = true then 2 else 0
theorem wrongV_ok {f : Nat → Int} {n : Nat} {C : Int} (h : wrongV f n C = 0) : 1 ≤ C ∧ C ≤ 8 ∧ n ≤ 400 ∧ ∀ i, i < n → 0 ≤ f i ∧ f i ≤ 1073741824 := by
  unfold wrongV at h
  split at h
  · cases h
  · rename_i g
    have hb : badW f n = false := by cases e : badW f n <;> simp_all
    have := (badW_iff f n).1 hb
    exact ⟨by omega, by omega, by omega, this⟩
end Go.Proofs.Ytningajaimbncaa
