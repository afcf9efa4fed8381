/- Plain facts on how many vectors are in service. No program in sight. -/
import Derived.Test.YtgddbmbljlngnaaDoorLocQ
namespace Go.Proofs.YtgddbmbljlngnaaDoor

theorem one_of (n N : Nat) : ((List.range N).filter (fun m => decide (m = n))).length = if n < N then 1 else 0 := by
  induction N with
  | zero => simp
  | succ N ih =>
    rw [List.range_succ, List.filter_append, List.length_append, ih]
    by_cases e : N = n
    · subst e
      simp
    · simp only [List.filter_cons, List.filter_nil, decide_eq_true_eq, if_neg e, List.length_nil, Nat.add_zero]
      by_cases h : n < N
      · rw [if_pos h, if_pos (by omega)]
      · rw [if_neg h, if_neg (by omega)]
theorem allOf_congr' {p q : Nat → Bool} (h : ∀ m, m < 256 → p m = q m) : allOf p = allOf q := by
  unfold allOf
  apply List.filter_congr
  intro m hm
  exact h m (by simpa using hm)
/-- One more. -/
theorem len_more {p q : Nat → Bool} {n : Nat} (hn : n < 256) (h : q n = false) (hp : ∀ m, m < 256 → p m = (q m || decide (m = n))) : (allOf p).length = (allOf q).length + 1 := by
  rw [allOf_congr' hp]
  have h1 := count_gen q (fun m => decide (m = n)) (List.range 256)
  have h2 : ((List.range 256).filter (fun m => q m && decide (m = n))).length = 0 := by
    rw [List.length_eq_zero_iff, List.filter_eq_nil_iff]
    intro m _
    by_cases e : m = n
    · subst e; simp [h]
    · simp [e]
  rw [h2, one_of, if_pos hn] at h1
  unfold allOf
  omega
theorem len_take {s : St} (h : 0 ≤ s.would) : (allOf (s.take s.would.toNat).q).length = (allOf s.q).length + 1 := by
  obtain ⟨n, e, _, _, hn, _, _, hq, _⟩ := would_pos h
  rw [e, Int.toNat_natCast]
  refine len_more hn ?_ (fun m hm => take_q s n m hm)
  cases hx : s.q n
  · rfl
  · have := hq n hn hx
    omega
theorem len_fin {s : St} (h : 0 ≤ topOf s.q) : (allOf s.q).length = (allOf (s.fin (topOf s.q).toNat).q).length + 1 := by
  rcases topOf_cases s.q with ⟨e, _⟩ | ⟨n, e, hn, hq, _⟩
  · omega
  · rw [e, Int.toNat_natCast]
    refine len_more hn (by rw [fin_q s n n hn]; simp) (fun m hm => ?_)
    rw [fin_q s n m hm]
    by_cases hm' : m = n
    · subst hm'; simp [hq]
    · simp [hm']
/-- Their classes rise from 2 on. -/
theorem cls_ge {q : Nat → Bool} (h1 : ∀ m, m < 32 → q m = false) (h2 : ∀ m n, m < 256 → n < 256 → q m = true → q n = true → m / 16 = n / 16 → m = n) : ∀ k, k < (allOf q).length → k + 2 ≤ (allOf q).getD k 0 / 16
  | 0, hk => by
    have h := at_is q 0 hk
    have : ¬ (allOf q).getD 0 0 < 32 := fun hx => by rw [h1 _ hx] at h; cases h.1
    omega
  | k + 1, hk => by
    have ih := cls_ge h1 h2 k (by omega)
    have ha := at_is q k (by omega)
    have hb := at_is q (k + 1) hk
    have hlt : (allOf q).getD k 0 < (allOf q).getD (k + 1) 0 := at_lt q (Nat.lt_succ_self k) hk
    have hne : (allOf q).getD k 0 / 16 ≠ (allOf q).getD (k + 1) 0 / 16 := fun e => by
      have := h2 _ _ ha.2 hb.2 ha.1 hb.1 e
      omega
    omega
theorem len_14 {s : St} (h : s.right = true) : (allOf s.q).length ≤ 14 := by
  rw [right_iff] at h
  by_cases h0 : (allOf s.q).length = 0
  · omega
  · have h1 := cls_ge h.2.2.1 h.2.2.2 ((allOf s.q).length - 1) (by omega)
    have h2 := (at_is s.q ((allOf s.q).length - 1) (by omega)).2
    omega
/-- What a step makes of the number in service: one more behind a take, one less behind an end. -/
theorem step_len {s r : St} {k n v : Int} (h : stepOf s k n = (r, v, 0)) : ((allOf r.q).length : Int) = (allOf s.q).length + (if k = 2 then 1 else if k = 3 then -1 else 0) := by
  obtain ⟨_, ⟨rfl, _, _, rfl, _⟩ | ⟨rfl, h1, rfl, _⟩ | ⟨rfl, h1, rfl, _⟩ | ⟨rfl, _, rfl, _⟩⟩ := step_inv h
  · rw [ask_q]; simp
  · rw [len_take h1]; simp
  · rw [len_fin h1]; simp; omega
  · simp [St.q]
end Go.Proofs.YtgddbmbljlngnaaDoor
