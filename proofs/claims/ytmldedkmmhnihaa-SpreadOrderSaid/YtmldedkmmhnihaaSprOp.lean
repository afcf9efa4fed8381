/- Plain facts: turning the pieces round changes neither the largest first nor the best. No program in sight. -/
import Derived.Test.YtmldedkmmhnihaaSprZ
import Derived.Test.YtmldedkmmhnihaaSprN
namespace Go.Proofs.Ytmldedkmmhnihaa

theorem perm_rv (n : Nat) : Perm (fun i => n - 1 - i) n :=
  ⟨fun i h => by show n - 1 - i < n; omega, fun i j h1 h2 h => by have : n - 1 - i = n - 1 - j := h; omega⟩
/-- How many are at least t. -/
def cnt (f : Nat → Nat) (t : Nat) : Nat → Nat := sumF (fun x => if t ≤ f x then 1 else 0)
theorem cnt_dec {f : Nat → Nat} {n : Nat} (h : ∀ i j, i ≤ j → j < n → f j ≤ f i) (t : Nat) : ∀ k, k ≤ n → cnt f t k ≤ k ∧ (∀ i, i < cnt f t k → t ≤ f i) ∧ ∀ i, cnt f t k ≤ i → i < k → ¬ t ≤ f i
  | 0, _ => ⟨Nat.le_refl _, fun i hi => absurd hi (Nat.not_lt_zero i), fun i _ hi => by omega⟩
  | k + 1, hk => by
    obtain ⟨h1, h2, h3⟩ := cnt_dec h t k (by omega)
    have e : cnt f t (k + 1) = cnt f t k + (if t ≤ f k then 1 else 0) := rfl
    by_cases g : t ≤ f k
    · rw [if_pos g] at e
      have hc : cnt f t k = k := by
        by_cases q : cnt f t k < k
        · have := h3 _ (Nat.le_refl _) q
          have := h (cnt f t k) k (by omega) (by omega)
          omega
        · omega
      rw [e, hc]
      refine ⟨Nat.le_refl _, fun i hi => ?_, fun i hi hi2 => by omega⟩
      by_cases q : i = k
      · rw [q]; exact g
      · exact h2 i (by omega)
    · rw [if_neg g] at e
      rw [e, Nat.add_zero]
      refine ⟨by omega, h2, fun i hi hi2 => ?_⟩
      by_cases q : i = k
      · rw [q]; exact g
      · exact h3 i hi (by omega)
/-- Two decreasing rows with the same numbers are one row. -/
theorem dec_uniq {f g : Nat → Nat} {n : Nat} (hf : ∀ i j, i ≤ j → j < n → f j ≤ f i) (hg : ∀ i j, i ≤ j → j < n → g j ≤ g i) (hc : ∀ t, cnt f t n = cnt g t n) : ∀ i, i < n → f i = g i := by
  have key : ∀ {f g : Nat → Nat}, (∀ i j, i ≤ j → j < n → f j ≤ f i) → (∀ i j, i ≤ j → j < n → g j ≤ g i) → (∀ t, cnt f t n = cnt g t n) → ∀ i, i < n → f i ≤ g i := by
    intro f g hf hg hc i hi
    obtain ⟨h1, h2, h3⟩ := cnt_dec hf (f i) n (Nat.le_refl n)
    obtain ⟨k1, k2, k3⟩ := cnt_dec hg (f i) n (Nat.le_refl n)
    by_cases q : i < cnt f (f i) n
    · rw [hc] at q
      exact k2 i q
    · exact absurd (Nat.le_refl _) (h3 i (by omega) hi)
  intro i hi
  have h1 := key hf hg hc i hi
  have h2 := key hg hf (fun t => (hc t).symm) i hi
  omega
theorem srt_down {ws O : Nat → Nat} {n : Nat} (h : Srt ws O 0 n) : ∀ i j, i ≤ j → j < n → ws (O j) ≤ ws (O i) := fun i j hij hj => by
  by_cases e : i = j
  · rw [e]; exact Nat.le_refl _
  · have := h i j (Nat.zero_le _) (by omega) hj
    unfold Lt at this
    omega
theorem srt_vals {ws us O K : Nat → Nat} {n : Nat} (hO : Perm O n) (sO : Srt ws O 0 n) (hK : Perm K n) (sK : Srt us K 0 n) (hw : ∀ g : Nat → Nat, sumF (fun i => g (ws i)) n = sumF (fun i => g (us i)) n) : ∀ i, i < n → ws (O i) = us (K i) := by
  refine dec_uniq (f := fun i => ws (O i)) (g := fun i => us (K i)) (srt_down sO) (srt_down sK) fun t => ?_
  have h1 := perm_sum hO fun y => if t ≤ ws y then 1 else 0
  have h2 := perm_sum hK fun y => if t ≤ us y then 1 else 0
  have h3 := hw fun y => if t ≤ y then 1 else 0
  exact (h1.trans h3).trans h2.symm
theorem planL_congr {ws us : Nat → Nat} {m : Nat} {O K : Nat → Nat} : ∀ {j : Nat}, (∀ i, i < j → ws (O i) = us (K i)) → (planP ws m O j).1 = (planP us m K j).1
  | 0, _ => rfl
  | j + 1, h => by
    show upd (planP ws m O j).1 (amin (planP ws m O j).1 m) ((planP ws m O j).1 (amin (planP ws m O j).1 m) + ws (O j)) = upd (planP us m K j).1 (amin (planP us m K j).1 m) ((planP us m K j).1 (amin (planP us m K j).1 m) + us (K j))
    rw [planL_congr (j := j) fun i hi => h i (by omega), h j (by omega)]
theorem most_vals {ws us : Nat → Nat} {m n : Nat} {O K : Nat → Nat} (h : ∀ i, i < n → ws (O i) = us (K i)) : mostP ws m O n = mostP us m K n := by
  unfold mostP; rw [planL_congr h]
/-- The largest first, of the pieces turned round. -/
theorem long_turn {ws O K : Nat → Nat} {m n : Nat} (hO : Perm O n) (sO : Srt ws O 0 n) (hK : Perm K n) (sK : Srt (fun i => ws (n - 1 - i)) K 0 n) : mostP ws m O n = mostP (fun i => ws (n - 1 - i)) m K n :=
  most_vals (us := fun i => ws (n - 1 - i)) (srt_vals (us := fun i => ws (n - 1 - i)) hO sO hK sK fun g => (perm_sum (perm_rv n) fun i => g (ws i)).symm)
theorem plans_turn {ws A R : Nat → Nat} {m n v : Nat} (h : Plans ws m n v A) (hR : Perm R n) : Plans (fun i => ws (R i)) m n v (fun i => A (R i)) :=
  ⟨fun i hi => h.1 _ (hR.1 i hi), fun c hc => by rw [lod_perm hR]; exact h.2 c hc⟩
theorem plans_same {ws us A : Nat → Nat} {m n v : Nat} (h : Plans ws m n v A) (e : ∀ i, i < n → us i = ws i) : Plans us m n v A :=
  ⟨h.1, fun c hc => by
    have : lod us A c n = lod ws A c n := sumF_congr fun i hi => by simp only [e i hi]
    rw [this]; exact h.2 c hc⟩
theorem best_turn {ws : Nat → Nat} {m n v : Nat} (h : IsBest ws m n v) : IsBest (fun i => ws (n - 1 - i)) m n v := by
  obtain ⟨A, hA⟩ := h.1
  refine ⟨⟨_, plans_turn hA (perm_rv n)⟩, fun u B hu hB => h.2 u _ hu (plans_same (plans_turn hB (perm_rv n)) fun i hi => ?_)⟩
  show ws i = ws (n - 1 - (n - 1 - i))
  congr 1; omega
theorem wrong_turn (f : Nat → Int) (n : Nat) (C : Int) : wrongV (fun i => f (n - 1 - i)) n C = wrongV f n C := by
  have e : badW (fun i => f (n - 1 - i)) n = badW f n := by
    have h1 := badW_iff (fun i => f (n - 1 - i)) n
    have h2 := badW_iff f n
    cases g : badW f n with
    | false => exact h1.2 fun i hi => h2.1 g _ (by omega)
    | true =>
      cases g2 : badW (fun i => f (n - 1 - i)) n with
      | true => rfl
      | false =>
        have := h2.2 fun i hi => by
          have := h1.1 g2 (n - 1 - i) (by omega)
          simp only [show n - 1 - (n - 1 - i) = i by omega] at this
          exact this
        rw [this] at g
        cases g
  unfold wrongV
  rw [e]
/-- The first i and the last i have changed places. -/
def rvK (f : Nat → Int) (n i : Nat) : Nat → Int := fun t => if t < i ∨ n ≤ t + i then f (n - 1 - t) else f t
theorem rvK_zero (f : Nat → Int) (n : Nat) : ∀ t, t < n → rvK f n 0 t = f t := fun t h => if_neg (by omega)
theorem rvK_last {f : Nat → Int} {n i : Nat} (h : n ≤ 2 * i + 1) : ∀ t, t < n → rvK f n i t = f (n - 1 - t) := fun t ht => by
  unfold rvK
  by_cases g : t < i ∨ n ≤ t + i
  · rw [if_pos g]
  · rw [if_neg g]; congr 1; omega
end Go.Proofs.Ytmldedkmmhnihaa
