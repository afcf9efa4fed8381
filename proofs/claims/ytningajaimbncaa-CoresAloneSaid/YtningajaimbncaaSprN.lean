/- Plain facts: there is one stable order only; plans of equal orders are equal. No program in sight. -/
import Derived.Test.YtningajaimbncaaSprS
namespace Go.Proofs.Ytningajaimbncaa

theorem perm_onto {K : Nat → Nat} {n v : Nat} (h : Perm K n) (hv : v < n) : ∃ i, i < n ∧ K i = v := by
  have h1 := perm_sum h (fun x => if x = v then 1 else 0)
  have h2 : 1 ≤ sumF (fun x => if x = v then 1 else 0) n := by
    have := le_sumF (f := fun x => if x = v then 1 else 0) hv
    simpa using this
  rw [← h1] at h2
  apply Classical.byContradiction
  intro g
  have h3 : sumF (fun i => if K i = v then 1 else 0) n = sumF (fun _ => 0) n := sumF_congr fun i hi => if_neg fun e => g ⟨i, hi, e⟩
  rw [sumF_zero] at h3
  omega
theorem Lt.asymm {ws : Nat → Nat} {x y : Nat} (h : Lt ws x y) (k : Lt ws y x) : False := by unfold Lt at *; omega
/-- There is one stable order only. -/
theorem srt_uniq {ws O K : Nat → Nat} {n : Nat} (hO : Perm O n) (sO : Srt ws O 0 n) (hK : Perm K n) (sK : Srt ws K 0 n) : ∀ i, i < n → O i = K i := by
  intro i
  induction i using Nat.strongRecOn with
  | _ i ih =>
    intro hi
    obtain ⟨a, ha, ea⟩ := perm_onto hK (hO.1 i hi)
    obtain ⟨b, hb, eb⟩ := perm_onto hO (hK.1 i hi)
    have h1 : i ≤ a := by
      apply Classical.byContradiction
      intro g
      have := ih a (by omega) ha
      rw [ea] at this
      have := hO.2 a i ha hi this
      omega
    have h2 : i ≤ b := by
      apply Classical.byContradiction
      intro g
      have := ih b (by omega) hb
      rw [eb] at this
      have := hK.2 i b hi hb this
      omega
    by_cases e1 : a = i
    · rw [← ea, e1]
    · by_cases e2 : b = i
      · rw [← eb, e2]
      · have g1 := sK i a (Nat.zero_le _) (by omega) ha
        have g2 := sO i b (Nat.zero_le _) (by omega) hb
        rw [ea, ← eb] at g1
        exact (g1.asymm g2).elim
theorem amin_congr {L K : Nat → Nat} : ∀ {k : Nat}, (∀ c, c < k → L c = K c) → amin L k = amin K k
  | 0, _ => rfl
  | 1, _ => by simp [amin]
  | k + 2, h => by
    have e := amin_congr (k := k + 1) fun c hc => h c (by omega)
    have h1 := (amin_spec L (k + 1) (by omega)).1
    show (if L (k + 1) < L (amin L (k + 1)) then k + 1 else amin L (k + 1)) = (if K (k + 1) < K (amin K (k + 1)) then k + 1 else amin K (k + 1))
    rw [h (k + 1) (by omega), h _ (by omega), e]
theorem planP_congr {ws : Nat → Nat} {m : Nat} {O K : Nat → Nat} : ∀ {j : Nat}, (∀ i, i < j → O i = K i) → planP ws m O j = planP ws m K j
  | 0, _ => rfl
  | j + 1, h => by
    show putP ws m (planP ws m O j) (O j) = putP ws m (planP ws m K j) (K j)
    rw [planP_congr (j := j) fun i hi => h i (by omega), h j (by omega)]
theorem mostP_congr {ws : Nat → Nat} {m n : Nat} {O K : Nat → Nat} (h : ∀ i, i < n → O i = K i) : mostP ws m O n = mostP ws m K n := by
  unfold mostP; rw [planP_congr h]
end Go.Proofs.Ytningajaimbncaa
