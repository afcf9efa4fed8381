/- Plain facts on the steps of a controller: what they keep. No program in sight. -/
import Derived.Test.YtgddbmbljlngnaaDoorLocP
namespace Go.Proofs.YtgddbmbljlngnaaDoor

theorem step_err (s : St) (k n : Int) (h : (stepOf s k n).2.2 ≠ 0) : (stepOf s k n).1 = St.zero ∧ (stepOf s k n).2.1 = 0 := by
  unfold stepOf at h ⊢
  repeat' split
  all_goals simp_all
theorem step_inv {s r : St} {k n v : Int} (h : stepOf s k n = (r, v, 0)) : s.right = true ∧
    ((k = 1 ∧ 32 ≤ n ∧ n < 256 ∧ r = s.ask n.toNat ∧ v = -1) ∨ (k = 2 ∧ 0 ≤ s.would ∧ r = s.take s.would.toNat ∧ v = s.would) ∨ (k = 3 ∧ 0 ≤ topOf s.q ∧ r = s.fin (topOf s.q).toNat ∧ v = topOf s.q) ∨ (k = 4 ∧ clsB n = true ∧ r = { s with c := n } ∧ v = -1)) := by
  unfold stepOf at h
  repeat' split at h
  all_goals simp only [Prod.mk.injEq] at h
  all_goals obtain ⟨rfl, rfl, h3⟩ := h
  all_goals first
    | (exfalso; revert h3; decide)
    | skip
  · rename_i h1 h2 h4
    exact ⟨by simpa using h1, Or.inl ⟨h2, by omega, by omega, rfl, rfl⟩⟩
  · rename_i h1 h2 h4 h5
    exact ⟨by simpa using h1, Or.inr (Or.inl ⟨h4, by omega, rfl, rfl⟩)⟩
  · rename_i h1 h2 h4 h5 h6
    exact ⟨by simpa using h1, Or.inr (Or.inr (Or.inl ⟨h5, by omega, rfl, rfl⟩))⟩
  · rename_i h1 h2 h4 h5 h6 h7
    exact ⟨by simpa using h1, Or.inr (Or.inr (Or.inr ⟨h6, by simpa using h7, rfl, rfl⟩))⟩

theorem ask_p (s : St) (n m : Nat) (hm : m < 256) : (s.ask n).p m = (s.p m || decide (m = n)) := mem_up _ _ _ _ _ _ hm
theorem ask_q (s : St) (n : Nat) : (s.ask n).q = s.q := rfl
theorem take_p (s : St) (n m : Nat) (hm : m < 256) : (s.take n).p m = (s.p m && !decide (m = n)) := mem_dn _ _ _ _ _ _ hm
theorem take_q (s : St) (n m : Nat) (hm : m < 256) : (s.take n).q m = (s.q m || decide (m = n)) := mem_up _ _ _ _ _ _ hm
theorem fin_p (s : St) (n : Nat) : (s.fin n).p = s.p := rfl
theorem fin_q (s : St) (n m : Nat) (hm : m < 256) : (s.fin n).q m = (s.q m && !decide (m = n)) := mem_dn _ _ _ _ _ _ hm
theorem right_iff (s : St) : s.right = true ↔ (0 ≤ s.c ∧ s.c < 16) ∧ (∀ m, m < 32 → s.p m = false) ∧ (∀ m, m < 32 → s.q m = false) ∧ (∀ m n, m < 256 → n < 256 → s.q m = true → s.q n = true → m / 16 = n / 16 → m = n) := rightB_iff _ _ _

/-- What it means that a vector would be delivered. -/
theorem would_pos {s : St} (h : 0 ≤ s.would) : ∃ n : Nat, s.would = n ∧ topOf s.p = n ∧ s.right = true ∧ n < 256 ∧ s.p n = true ∧ s.c < ((n / 16 : Nat) : Int) ∧ (∀ m, m < 256 → s.q m = true → m / 16 < n / 16) ∧ (∀ m, m < 256 → s.p m = true → m ≤ n) := by
  have h' := h
  unfold St.would wouldOf at h
  split at h
  · rename_i hc
    obtain ⟨h1, h2, h3, h4⟩ := hc
    rcases topOf_cases s.p with ⟨e, _⟩ | ⟨n, e, hn, hp, ha⟩
    · omega
    · refine ⟨n, ?_, e, h1, hn, hp, by omega, fun m hm hq => ?_, fun m hm hp' => ?_⟩
      · unfold St.would wouldOf
        rw [if_pos ⟨h1, h2, h3, h4⟩, e]
      · have := topOf_ge s.q m hm hq
        omega
      · have := topOf_ge s.p m hm hp'
        omega
  · omega
/-- And that none would. -/
theorem would_neg {s : St} (hr : s.right = true) (h : s.would < 0) (n : Nat) (hn : n < 256) (hp : s.p n = true) : ((n / 16 : Nat) : Int) ≤ s.c ∨ ∃ m, m < 256 ∧ s.q m = true ∧ n / 16 ≤ m / 16 := by
  unfold St.would wouldOf at h
  have hge := topOf_ge s.p n hn hp
  split at h
  · omega
  · rename_i hc
    by_cases h1 : s.c < topOf s.p / 16
    · by_cases h2 : topOf s.q < 0 ∨ topOf s.q / 16 < topOf s.p / 16
      · exact (hc ⟨hr, by omega, h1, h2⟩).elim
      · right
        rcases topOf_cases s.q with ⟨e, _⟩ | ⟨m, e, hm, hq, _⟩
        · omega
        · exact ⟨m, hm, hq, by omega⟩
    · left
      omega

theorem right_ask {s : St} {n : Nat} (h : s.right = true) (hn : 32 ≤ n) : (s.ask n).right = true := by
  rw [right_iff] at h ⊢
  obtain ⟨h1, h2, h3, h4⟩ := h
  refine ⟨h1, fun m hm => ?_, h3, h4⟩
  rw [ask_p s n m (by omega), h2 m hm]
  simp
  omega
theorem right_class {s : St} {n : Int} (h : s.right = true) (hn : clsB n = true) : St.right { s with c := n } = true := by
  rw [right_iff] at h ⊢
  exact ⟨(clsB_iff n).1 hn, h.2⟩
theorem right_fin {s : St} {n : Nat} (h : s.right = true) : (s.fin n).right = true := by
  rw [right_iff] at h ⊢
  obtain ⟨h1, h2, h3, h4⟩ := h
  refine ⟨h1, h2, fun m hm => ?_, fun m k hm hk hqm hqk he => ?_⟩
  · rw [fin_q s n m (by omega), h3 m hm]
    rfl
  · rw [fin_q s n m hm] at hqm
    rw [fin_q s n k hk] at hqk
    simp at hqm hqk
    exact h4 m k hm hk hqm.1 hqk.1 he
theorem right_take {s : St} (h : 0 ≤ s.would) : (s.take s.would.toNat).right = true := by
  obtain ⟨n, e, _, hr, hn, hp, hc, hq, _⟩ := would_pos h
  rw [e, Int.toNat_natCast]
  rw [right_iff] at hr ⊢
  obtain ⟨h1, h2, h3, h4⟩ := hr
  have hn32 : 32 ≤ n := by
    by_cases hx : 32 ≤ n
    · exact hx
    · rw [h2 n (by omega)] at hp
      cases hp
  refine ⟨h1, fun m hm => ?_, fun m hm => ?_, fun m k hm hk hqm hqk he => ?_⟩
  · rw [take_p s n m (by omega), h2 m hm]
    rfl
  · rw [take_q s n m (by omega), h3 m hm]
    simp
    omega
  · rw [take_q s n m hm] at hqm
    rw [take_q s n k hk] at hqk
    simp at hqm hqk
    rcases hqm with hqm | rfl
    · rcases hqk with hqk | rfl
      · exact h4 m k hm hk hqm hqk he
      · have := hq m hm hqm
        omega
    · rcases hqk with hqk | rfl
      · have := hq k hk hqk
        omega
      · rfl
theorem step_right {s r : St} {k n v : Int} (h : stepOf s k n = (r, v, 0)) : r.right = true := by
  obtain ⟨hr, ⟨_, h1, _, rfl, _⟩ | ⟨_, h1, rfl, _⟩ | ⟨_, _, rfl, _⟩ | ⟨_, h1, rfl, _⟩⟩ := step_inv h
  · exact right_ask hr (by omega)
  · exact right_take h1
  · exact right_fin hr
  · exact right_class hr h1
theorem step_ok' {s r : St} {k n v x : Int} (ho : s.Ok) (h : stepOf s k n = (r, v, x)) : r.Ok := by
  have := step_ok s k n ho
  rw [h] at this
  exact this
/-- A step in names: either an error, and then nothing else, or none. -/
theorem step_split (s : St) (k n : Int) : (∃ x, x ≠ 0 ∧ stepOf s k n = (St.zero, 0, x)) ∨ (∃ r v, stepOf s k n = (r, v, 0)) := by
  by_cases h : (stepOf s k n).2.2 = 0
  · right
    exact ⟨(stepOf s k n).1, (stepOf s k n).2.1, by rw [← h]⟩
  · left
    obtain ⟨h1, h2⟩ := step_err s k n h
    exact ⟨(stepOf s k n).2.2, h, by rw [← h1, ← h2]⟩
end Go.Proofs.YtgddbmbljlngnaaDoor
