/- Package ring, in plain terms: what corebellref.RParts finds on its way round. No program in sight. -/
import Derived.Test.YtipkmmajhhcadaaRingT
namespace Go.Proofs.Ytipkmmajhhcadaa

theorem at_ds {n a b i : Nat} (ha : a < n) (hb : b < n) (hi : i < n) : wrR n (a + i) = b ↔ i = dsR n a b := by
  constructor
  · rintro rfl
    exact (ds_wr ha hi).symm
  · rintro rfl
    exact wr_ds ha hb
/-- One step round, as '(k + 1) % n' says it. -/
theorem round_step {n a i : Nat} (ha : a < n) (hi : i + 1 < n) : (wrR n (a + i) + 1) % n = wrR n (a + (i + 1)) := by
  have h := wr_lt' ha (show i < n by omega)
  rw [← wr_mod (by omega), wr_step ha hi]
theorem round_end {n a i : Nat} (ha : a < n) (hi : i + 1 = n) : (wrR n (a + i) + 1) % n = a := by
  have h := wr_lt' ha (show i < n by omega)
  rw [← wr_mod (by omega)]
  unfold wrR
  split <;> split <;> omega
theorem okC_work {p q k : Nat} {c : CeR} (h : k < p) : okC p q k c = !c.1 := by unfold okC; rw [if_pos h]
theorem okC_dev {p q k : Nat} {c : CeR} (h : ¬ k < p) (h2 : k < p + q) : okC p q k c = c.1 := by unfold okC; rw [if_neg h, if_pos h2]
theorem okC_zero {p q k : Nat} {c : CeR} (h : ¬ k < p + q) : okC p q k c = decide (c = (false, 0)) := by
  unfold okC
  rw [if_neg (by omega), if_neg h]
  obtain ⟨x, y⟩ := c
  cases x <;> simp
section
variable {n : Nat} {cs : List CeR} {give take work : Int}
/-- Why it can't be: an index, the order of the three, a cell. -/
theorem rgt_num (h : ¬ (2 ≤ n ∧ n ≤ 64 ∧ (0 ≤ give ∧ give < n) ∧ (0 ≤ take ∧ take < n) ∧ (0 ≤ work ∧ work < n))) : rgtR n cs give take work = false := by
  unfold rgtR
  exact decide_eq_false fun q => h ⟨q.1, q.2.1, q.2.2.1, q.2.2.2.1, q.2.2.2.2.1⟩
theorem rgt_order (h : dsR n take.toNat give.toNat < dsR n take.toNat work.toNat) : rgtR n cs give take work = false := by
  unfold rgtR
  exact decide_eq_false fun q => Nat.not_lt.2 q.2.2.2.2.2.1 h
theorem rgt_cell {k : Nat} (hk : k < n) (h : okC (dsR n take.toNat work.toNat) (dsR n work.toNat give.toNat) k (cs[wrR n (take.toNat + k)]?.getD (false, 0)) = false) : rgtR n cs give take work = false := by
  unfold rgtR
  exact decide_eq_false fun q => by
    have := q.2.2.2.2.2.2 k hk
    rw [h] at this
    cases this
theorem rgt_true (h1 : 2 ≤ n) (h2 : n ≤ 64) (h3 : 0 ≤ give ∧ give < n) (h4 : 0 ≤ take ∧ take < n) (h5 : 0 ≤ work ∧ work < n) (h6 : dsR n take.toNat work.toNat ≤ dsR n take.toNat give.toNat)
    (h7 : ∀ k, k < n → okC (dsR n take.toNat work.toNat) (dsR n work.toNat give.toNat) k (cs[wrR n (take.toNat + k)]?.getD (false, 0)) = true) : rgtR n cs give take work = true := decide_eq_true ⟨h1, h2, h3, h4, h5, h6, h7⟩
end
/-- From Work on it never comes by Take ahead of Give, where Work lies between. -/
theorem work_round {n t w g i : Nat} (ht : t < n) (hw : w < n) (hg : g < n) (h : dsR n t w ≤ dsR n t g) (hi : i < dsR n w g) : wrR n (w + (i + 1)) = t → wrR n (w + (i + 1)) = g := by
  have h1 := ds_lt hw hg
  have h2 := ds_add ht hw hg
  intro e
  have e1 := (at_ds hw ht (show i + 1 < n by omega)).1 e
  have h3 : dsR n t w + dsR n w g < n := h2.1 h
  have h4 : 0 < i + 1 := Nat.succ_pos _
  unfold dsR at e1 h3
  by_cases a : w ≤ t <;> by_cases b : t ≤ w <;> by_cases c : w ≤ g <;> simp only [a, b, c, if_true, if_false] at e1 h3 <;> first
    | (unfold dsR at hi; simp only [c, if_true, if_false] at hi; exfalso; omega)
    | omega
end Go.Proofs.Ytipkmmajhhcadaa
