/- Plain facts: what an operation without an error does to the slots. -/
import Derived.Test.YtmldedkmmhnihaaDoorVecP
namespace Go.Proofs.YtmldedkmmhnihaaDoor

theorem step_refused {cores : Nat} {l l2 : List SlotT} {o : VopT} {e : Int} (h : stepV cores l o = (l2, e)) (he : ¬ e = 0) : l2 = l := by
  unfold stepV at h
  split at h
  · simp only [Prod.mk.injEq] at h
    exact h.1.symm
  · split at h
    · simp only [Prod.mk.injEq] at h
      exact absurd h.2.symm he
    · split at h
      · simp only [Prod.mk.injEq] at h
        exact h.1.symm
      · simp only [Prod.mk.injEq] at h
        exact absurd h.2.symm he
theorem step_meant {cores : Nat} {l l2 : List SlotT} {K L M : Int} (h : stepV cores l ⟨K, L, M⟩ = (l2, 0)) :
    ∃ i : Nat, L = i ∧ i < l.length ∧ (∀ j : Nat, ¬ j = i → l2[j]? = l[j]?) ∧
      ((K = 2 ∧ l2[i]? = some zs) ∨ ∃ c v : Nat, l2[i]? = some ⟨c, v⟩ ∧ c < cores ∧ allow M c = true ∧ (K = 1 ∨ (K = 3 ∧ ¬ c = (l.getD i zs).core))) := by
  unfold stepV at h
  split at h
  · rename_i he
    simp only [Prod.mk.injEq] at h
    exact absurd h.2 he
  · rename_i he
    obtain ⟨g1, g2, g3⟩ := errV_zero.1 (Classical.not_not.1 he)
    simp only at g1 g2 g3 h
    have hil : L.toNat < l.length := by omega
    have hne : ∀ (s : SlotT) (j : Nat), ¬ j = L.toNat → (l.set L.toNat s)[j]? = l[j]? := fun s j hj => List.getElem?_set_ne (fun e => hj e.symm)
    have heq : ∀ s : SlotT, (l.set L.toNat s)[L.toNat]? = some s := fun s => (set_at hil).2 (Or.inl ⟨rfl, rfl⟩)
    split at h
    · rename_i hk
      simp only [Prod.mk.injEq] at h
      obtain ⟨rfl, _⟩ := h
      exact ⟨L.toNat, by omega, hil, hne zs, Or.inl ⟨hk, heq zs⟩⟩
    · rename_i hk
      split at h
      · simp only [Prod.mk.injEq] at h
        exact absurd h.2 (by decide)
      · rename_i c hp
        simp only [Prod.mk.injEq] at h
        obtain ⟨rfl, _⟩ := h
        obtain ⟨p1, p2, _, _⟩ := pick_some hp
        unfold okV at p2
        rw [Bool.and_eq_true] at p2
        refine ⟨L.toNat, by omega, hil, hne _, Or.inr ⟨c, _, heq _, p1, p2.1, ?_⟩⟩
        by_cases h1 : K = 1
        · exact Or.inl h1
        · have h3 : K = 3 := by omega
          refine Or.inr ⟨h3, ?_⟩
          have := p2.2
          simp only [h3, decide_true, Bool.true_and] at this
          simpa using this
end Go.Proofs.YtmldedkmmhnihaaDoor
