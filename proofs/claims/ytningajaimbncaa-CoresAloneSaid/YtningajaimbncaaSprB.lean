/- Plain facts on the best plan: what can still be reached, by looking through all plans but some. No program in sight. -/
import Derived.Test.YtningajaimbncaaSprP
namespace Go.Proofs.Ytningajaimbncaa

/-- The last r of n pieces can be given out so that nobody has more than v. -/
def Can (ws : Nat → Nat) (m n : Nat) : Nat → (Nat → Nat) → Nat → Prop
  | 0, L, v => ∀ c, c < m → L c ≤ v
  | r + 1, L, v => ∃ c, c < m ∧ Can ws m n r (upd L c (L c + ws (n - (r + 1)))) v
section
variable {ws : Nat → Nat} {m n : Nat}
theorem can_load : ∀ {r : Nat} {L : Nat → Nat} {v : Nat}, Can ws m n r L v → ∀ c, c < m → L c ≤ v
  | 0, _, _, h => h
  | r + 1, L, v, h => by
    obtain ⟨d, hd, h⟩ := h
    intro c hc
    have := can_load h c hc
    by_cases e : c = d
    · subst e
      rw [upd_same] at this
      omega
    · rwa [upd_other e] at this
theorem can_mono : ∀ {r : Nat} {L : Nat → Nat} {v u : Nat}, Can ws m n r L v → v ≤ u → Can ws m n r L u
  | 0, _, _, _, h, hv => fun c hc => Nat.le_trans (h c hc) hv
  | r + 1, _, _, _, h, hv => by
    obtain ⟨d, hd, h⟩ := h
    exact ⟨d, hd, can_mono h hv⟩
theorem can_congr : ∀ {r : Nat} {L K : Nat → Nat} {v : Nat}, (∀ c, c < m → L c = K c) → Can ws m n r L v → Can ws m n r K v
  | 0, _, _, _, he, h => fun c hc => by rw [← he c hc]; exact h c hc
  | r + 1, L, K, v, he, h => by
    obtain ⟨d, hd, h⟩ := h
    refine ⟨d, hd, can_congr (fun c hc => ?_) h⟩
    unfold upd
    rw [he d hd, he c hc]
theorem can_turn {s : Nat → Nat} (h1 : ∀ c, s (s c) = c) (h2 : ∀ c, c < m → s c < m) : ∀ {r : Nat} {L : Nat → Nat} {v : Nat}, Can ws m n r L v → Can ws m n r (fun c => L (s c)) v
  | 0, _, _, h => fun c hc => h (s c) (h2 c hc)
  | r + 1, L, v, h => by
    obtain ⟨d, hd, h⟩ := h
    refine ⟨s d, h2 d hd, ?_⟩
    have := can_turn h1 h2 h
    refine can_congr (fun c _ => ?_) this
    unfold upd
    by_cases e : c = s d
    · subst e
      simp [h1]
    · rw [if_neg e, if_neg (fun g => e (by rw [← g, h1]))]
/-- Two change places. -/
def swp (c d x : Nat) : Nat := if x = c then d else if x = d then c else x
theorem swp_c (c d : Nat) : swp c d c = d := if_pos rfl
theorem swp_d (c d : Nat) : swp c d d = c := by
  unfold swp
  by_cases h : d = c
  · rw [if_pos h, h]
  · rw [if_neg h, if_pos rfl]
theorem swp_o {c d x : Nat} (h1 : ¬ x = c) (h2 : ¬ x = d) : swp c d x = x := by
  unfold swp
  rw [if_neg h1, if_neg h2]
theorem swp_swp (c d x : Nat) : swp c d (swp c d x) = x := by
  by_cases h1 : x = c
  · rw [h1, swp_c, swp_d]
  · by_cases h2 : x = d
    · rw [h2, swp_d, swp_c]
    · rw [swp_o h1 h2, swp_o h1 h2]
theorem swp_lt {c d x : Nat} (hc : c < m) (hd : d < m) (hx : x < m) : swp c d x < m := by
  unfold swp
  split
  · exact hd
  · split
    · exact hc
    · exact hx
/-- Of two cores with the same load the one stands for the other. -/
theorem can_alike {r c d w v : Nat} {L : Nat → Nat} (hc : c < m) (hd : d < m) (e : L d = L c) (h : Can ws m n r (upd L c (L c + w)) v) : Can ws m n r (upd L d (L d + w)) v := by
  by_cases hcd : c = d
  · subst hcd; exact h
  have := can_turn (swp_swp c d) (fun x hx => swp_lt hc hd hx) h
  refine can_congr (fun x _ => ?_) this
  by_cases g1 : x = c
  · rw [g1, swp_c, upd_other (fun q => hcd q.symm), upd_other hcd, e]
  · by_cases g2 : x = d
    · rw [g2, swp_d, upd_same, upd_same, e]
    · rw [swp_o g1 g2, upd_other g1, upd_other g2]
/-- What looking through all plans makes of the best so far. -/
def BestIs (ws : Nat → Nat) (m n r : Nat) (L : Nat → Nat) (b b' : Nat) : Prop := b' ≤ b ∧ (b' = b ∨ Can ws m n r L b') ∧ ∀ v, v < b' → ¬ Can ws m n r L v
/-- The same, for the cores below c only. -/
def PartB (ws : Nat → Nat) (m n r : Nat) (L : Nat → Nat) (b c b' : Nat) : Prop := b' ≤ b ∧ (b' = b ∨ Can ws m n (r + 1) L b') ∧ ∀ v, v < b' → ∀ d, d < c → ¬ Can ws m n r (upd L d (L d + ws (n - (r + 1)))) v
theorem best_leaf (L : Nat → Nat) (b : Nat) : BestIs ws m n 0 L b (min b (maxF L m)) := by
  refine ⟨Nat.min_le_left _ _, ?_, fun v hv h => ?_⟩
  · by_cases g : b ≤ maxF L m
    · exact Or.inl (Nat.min_eq_left g)
    · rw [Nat.min_eq_right (by omega)]
      exact Or.inr fun c hc => maxF_ge hc
  · have : maxF L m ≤ v := maxF_le h
    omega
theorem part_zero (r : Nat) (L : Nat → Nat) (b : Nat) : PartB ws m n r L b 0 b := ⟨Nat.le_refl _, Or.inl rfl, fun v _ d hd => by omega⟩
theorem part_all {r b b' : Nat} {L : Nat → Nat} (h : PartB ws m n r L b m b') : BestIs ws m n (r + 1) L b b' :=
  ⟨h.1, h.2.1, fun v hv ⟨d, hd, hc⟩ => h.2.2 v hv d hd hc⟩
theorem part_alike {r b c d b' : Nat} {L : Nat → Nat} (h : PartB ws m n r L b c b') (hc : c < m) (hd : d < c) (e : L d = L c) : PartB ws m n r L b (c + 1) b' :=
  ⟨h.1, h.2.1, fun v hv x hx hcan => by
    by_cases g : x = c
    · subst g
      exact h.2.2 v hv d hd (can_alike hc (by omega) e hcan)
    · exact h.2.2 v hv x (by omega) hcan⟩
theorem part_bound {r b c b' : Nat} {L : Nat → Nat} (h : PartB ws m n r L b c b') (hc : c < m) (e : b' ≤ L c + ws (n - (r + 1))) : PartB ws m n r L b (c + 1) b' :=
  ⟨h.1, h.2.1, fun v hv x hx hcan => by
    by_cases g : x = c
    · subst g
      have := can_load hcan x hc
      rw [upd_same] at this
      omega
    · exact h.2.2 v hv x (by omega) hcan⟩
theorem part_deep {r b c b' b2 : Nat} {L : Nat → Nat} (h : PartB ws m n r L b c b') (hc : c < m) (e : BestIs ws m n r (upd L c (L c + ws (n - (r + 1)))) b' b2) : PartB ws m n r L b (c + 1) b2 := by
  refine ⟨Nat.le_trans e.1 h.1, ?_, fun v hv x hx hcan => ?_⟩
  · rcases e.2.1 with g | g
    · rw [g]; exact h.2.1
    · exact Or.inr ⟨c, hc, g⟩
  · by_cases g : x = c
    · subst g
      exact e.2.2 v hv hcan
    · exact h.2.2 v (Nat.lt_of_lt_of_le hv e.1) x (by omega) hcan
/-- Whatever the order of looking: there is a plan, so the least is found. -/
theorem can_some (hm : 0 < m) : ∀ (r : Nat) (L : Nat → Nat), ∃ v, Can ws m n r L v
  | 0, L => ⟨maxF L m, fun _ hc => maxF_ge hc⟩
  | r + 1, L => by
    obtain ⟨v, h⟩ := can_some hm r (upd L 0 (L 0 + ws (n - (r + 1))))
    exact ⟨v, 0, hm, h⟩
end
end Go.Proofs.Ytningajaimbncaa
