/- Plain facts on operations of lines: right lines stay right. No program in sight. -/
import Derived.Test.YtmldedkmmhnihaaPinC
namespace Go.Proofs.Ytmldedkmmhnihaa

theorem pinStep_ok (p : PinT) (K : Int) (h : p.ok = true) : (pinStep p K).1.ok = true := by
  obtain ⟨c, v, l, m, u, k, s⟩ := p
  unfold PinT.ok at h
  simp only [Bool.and_eq_true] at h
  obtain ⟨hr, hc⟩ := h
  have hr' : ((decide (0 ≤ c) && decide (c < 8) && decide (32 ≤ v) && decide (v < 256)) = true) := by simpa using hr
  have key : ∀ q : PinT, q.core = c → q.vec = v → (if q.level = true then !q.kept && (q.sent || q.masked || !q.up) else !q.sent && (q.masked || !q.kept)) = true → q.ok = true := by
    intro q h1 h2 h3
    unfold PinT.ok
    rw [h1, h2, hr', h3]
    rfl
  clear hr hr'
  unfold pinStep PinT.move
  by_cases h1 : K = 1
  · rw [if_pos h1]; cases l <;> cases m <;> cases u <;> cases k <;> cases s <;> first | (exact key _ rfl rfl rfl) | (simp at hc)
  rw [if_neg h1]
  by_cases h2 : K = 2
  · rw [if_pos h2]; cases l <;> cases m <;> cases u <;> cases k <;> cases s <;> first | (exact key _ rfl rfl rfl) | (simp at hc)
  rw [if_neg h2]
  by_cases h3 : K = 3
  · rw [if_pos h3]; cases l <;> cases m <;> cases u <;> cases k <;> cases s <;> first | (exact key _ rfl rfl rfl) | (simp at hc)
  rw [if_neg h3]
  by_cases h4 : K = 4
  · rw [if_pos h4]; cases l <;> cases m <;> cases u <;> cases k <;> cases s <;> first | (exact key _ rfl rfl rfl) | (simp at hc)
  rw [if_neg h4]
  by_cases h5 : K = 5
  · rw [if_pos h5]; cases l <;> cases m <;> cases u <;> cases k <;> cases s <;> first | (exact key _ rfl rfl rfl) | (simp at hc)
  rw [if_neg h5]; cases l <;> cases m <;> cases u <;> cases k <;> cases s <;> first | (exact key _ rfl rfl rfl) | (simp at hc)
theorem pins_each {l : List PinT} (h : pinsOk l = true) (j : Nat) (hj : j < l.length) : (l.getD j pin0).ok = true := by
  unfold pinsOk at h
  rw [Bool.and_eq_true, List.all_eq_true] at h
  rw [List.getD_eq_getElem?_getD, List.getElem?_eq_getElem hj]
  exact h.2 _ (List.getElem_mem hj)
theorem pins_set {l : List PinT} (h : pinsOk l = true) (q : Nat) (p2 : PinT) (h2 : p2.ok = true) : pinsOk (l.set q p2) = true := by
  refine pins_ok ?_ (fun j hj => ?_)
  · unfold pinsOk at h
    rw [Bool.and_eq_true, decide_eq_true_eq] at h
    simpa using h.1
  · rw [List.length_set] at hj
    by_cases e : q = j
    · subst e
      rw [List.getD_eq_getElem?_getD, List.getElem?_set_self hj]
      exact h2
    · rw [List.getD_eq_getElem?_getD, List.getElem?_set_ne e, ← List.getD_eq_getElem?_getD]
      exact pins_each h j hj
theorem set_other {l : List PinT} {q j : Nat} (p2 : PinT) (e : ¬ j = q) : (l.set q p2).getD j pin0 = l.getD j pin0 := by
  rw [List.getD_eq_getElem?_getD, List.getD_eq_getElem?_getD, List.getElem?_set_ne (fun x => e x.symm)]
end Go.Proofs.Ytmldedkmmhnihaa
