/- Package cores, in plain terms: among their like all have as much, but for a slice; graver ones do not know of lighter ones. No program in sight. -/
import Derived.Test.YtningajaimbncaaCoresP
namespace Go.Proofs.Ytningajaimbncaa

theorem not_take {l : List Nat} (h : l.Pairwise fun a b => ¬ a = b) {n x : Nat} (hx : x ∈ l.drop n) : ¬ x ∈ l.take n := fun q => by
  rw [← List.take_append_drop n l, List.pairwise_append] at h
  exact h.2.2 x q x hx rfl
theorem filter_take {l : List Nat} (h : l.Pairwise fun a b => ¬ a = b) (n : Nat) : (l.filter fun k => decide (k ∈ l.take n)) = l.take n ∧ (l.filter fun k => !decide (k ∈ l.take n)) = l.drop n := by
  have h1 : ∀ x ∈ l.drop n, ¬ x ∈ l.take n := fun x hx => not_take h hx
  obtain ⟨a, ha⟩ : ∃ a, l.take n = a := ⟨_, rfl⟩
  obtain ⟨b, hb⟩ : ∃ b, l.drop n = b := ⟨_, rfl⟩
  have e : l = a ++ b := by rw [← ha, ← hb, List.take_append_drop]
  rw [ha, hb] at h1
  rw [ha, hb, e, List.filter_append, List.filter_append]
  constructor
  · rw [List.filter_eq_self.2 fun x hx => by simpa using hx, List.filter_eq_nil_iff.2 fun x hx => by simpa using h1 x hx, List.append_nil]
  · rw [List.filter_eq_nil_iff.2 fun x hx => by simpa using hx, List.filter_eq_self.2 fun x hx => by simpa using h1 x hx, List.nil_append]
/-- The threads of CoresFair. -/
def fairT (m c sl : Nat) : ThN := ⟨m, fun _ => 0, fun _ => 0, fun _ => 10000, c, sl⟩
theorem down_one {q : Nat → List Nat} (h : ∀ j, ¬ j = 0 → q j = []) : ∀ n, downN q (n + 1) = q 0
  | 0 => by simp [downN]
  | n + 1 => by rw [downN, down_one h n, h (n + 1) (by omega), List.nil_append]
theorem cnt_le (T : ThN) (k : Nat) : ∀ t, cntN T k t ≤ t
  | 0 => Nat.le_refl _
  | t + 1 => by
    have := cnt_le T k t
    simp only [cntN]
    split <;> omega
/-- How far they are: those ahead have run b slices, those behind one more; who runs now, p ticks beside. -/
structure FairN (T : ThN) (s : StN) (L0 L1 : List Nat) (b p : Nat) : Prop where
  line : s.q 0 = L0 ++ L1
  rest : ∀ j, ¬ j = 0 → s.q j = []
  nod : (L0 ++ L1).Pairwise fun a b => ¬ a = b
  some : ¬ L0 = []
  all : ∀ k, k < T.m → k ∈ L0 ++ L1
  lt : p < T.sl
  r0 : ∀ k ∈ L0, s.ran k = T.sl * b + if k ∈ (L0 ++ L1).take T.c then p else 0
  r1 : ∀ k ∈ L1, s.ran k = T.sl * (b + 1) + if k ∈ (L0 ++ L1).take T.c then p else 0
theorem FairN.run {T : ThN} {s : StN} {L0 L1 : List Nat} {b p : Nat} (h : FairN T s L0 L1 b p) : T.pickN s = (L0 ++ L1).take T.c := by
  unfold ThN.pickN
  rw [down_one h.rest 31, h.line]
theorem FairN.near {T : ThN} {s : StN} {L0 L1 : List Nat} {b p : Nat} (h : FairN T s L0 L1 b p) {x y : Nat} (hx : x < T.m) (hy : y < T.m) : s.ran x ≤ s.ran y + T.sl := by
  have hp := h.lt
  have hmul : T.sl * (b + 1) = T.sl * b + T.sl := Nat.mul_succ _ _
  have hlow : ∀ k, k < T.m → T.sl * b ≤ s.ran k := fun k hk => by
    rcases List.mem_append.1 (h.all k hk) with q | q
    · have := h.r0 k q; omega
    · have := h.r1 k q; omega
  have hly := hlow y hy
  rcases List.mem_append.1 (h.all x hx) with q | q
  · have := h.r0 x q
    split at this <;> omega
  · have h1 := h.r1 x q
    by_cases e : x ∈ (L0 ++ L1).take T.c
    · rw [if_pos e] at h1
      have hc : L0.length ≤ T.c := by
        by_cases hle : L0.length ≤ T.c
        · exact hle
        · rw [List.take_append_of_le_length (by omega)] at e
          have hn := h.nod
          rw [List.pairwise_append] at hn
          exact absurd rfl (hn.2.2 x (List.mem_of_mem_take e) x q)
      rcases List.mem_append.1 (h.all y hy) with g | g
      · have h2 := h.r0 y g
        rw [if_pos (by rw [List.take_append, List.take_of_length_le hc]; exact List.mem_append_left _ g)] at h2
        omega
      · have h2 := h.r1 y g
        omega
    · rw [if_neg e] at h1
      omega
theorem fair_step {m c sl t : Nat} {L0 L1 : List Nat} {b p : Nat} (hsl : 0 < sl) (ht : t < 5000) (h : FairN (fairT m c sl) ((fairT m c sl).atN t) L0 L1 b p) : ∃ L0' L1' b' p', FairN (fairT m c sl) ((fairT m c sl).atN (t + 1)) L0' L1' b' p' := by
  obtain ⟨T, hT⟩ : ∃ T, fairT m c sl = T := ⟨_, rfl⟩
  rw [hT] at h ⊢
  have hTc : T.c = c := by rw [← hT]; rfl
  have hTs : T.sl = sl := by rw [← hT]; rfl
  have hTm : T.m = m := by rw [← hT]; rfl
  have hl : ∀ k, k < T.m → T.lev k < 32 := fun k _ => by rw [← hT]; exact Nat.zero_lt_succ _
  have harr : ∀ j, T.arrN (t + 1) j = [] := fun j => List.filter_eq_nil_iff.2 fun k _ => by rw [← hT]; simp [fairT]
  have hrun : T.runN t = (L0 ++ L1).take c := by
    show T.pickN (T.atN t) = _
    rw [h.run, hTc]
  have hq : ∀ j, (T.atN (t + 1)).q j = (T.doN (T.atN t) (T.runN t)).q j := fun j => by
    show (T.doN (T.atN t) (T.runN t)).q j ++ T.arrN (t + 1) j = _
    rw [harr, List.append_nil]
  have hran : ∀ k, (T.atN (t + 1)).ran k = if k ∈ (L0 ++ L1).take c then (T.atN t).ran k + 1 else (T.atN t).ran k := fun k => by
    show incN (T.atN t) (T.runN t) k = _
    unfold incN
    rw [hrun]
  have halive : ∀ k, decide (0 < decN (T.atN t) (T.runN t) k) = true := fun k => by
    have h1 := left_cnt hl k t
    have h2 := cnt_le T k t
    have hw : T.work k = 10000 := by rw [← hT]; rfl
    have h3 : (T.atN t).left k = (T.stN t).left k := rfl
    rw [decide_eq_true_eq]
    unfold decN
    split <;> omega
  have hdo : ∀ j, (T.doN (T.atN t) (T.runN t)).q j = ((T.atN t).q j).filter (fun k => !T.movN (T.atN t) (T.runN t) k) ++ ((T.atN t).q j).filter fun k => T.movN (T.atN t) (T.runN t) k := fun j => List.filter_eq_self.2 fun k _ => halive k
  have hrest : ∀ j, ¬ j = 0 → (T.atN (t + 1)).q j = [] := fun j hj => by rw [hq, hdo, h.rest j hj]; rfl
  have hsome := h.some
  have hmul : ∀ x, sl * (x + 1) = sl * x + sl := fun x => Nat.mul_succ _ _
  have hp := h.lt
  have hr0 := h.r0
  have hr1 := h.r1
  rw [hTs] at hp hr0 hr1
  rw [hTc] at hr0 hr1
  by_cases hps : p + 1 < sl
  · -- nobody is moved
    have hmov : ∀ k ∈ L0 ++ L1, T.movN (T.atN t) (T.runN t) k = false := fun k hk => by
      unfold ThN.movN
      rw [decide_eq_false_iff_not, hrun, hTs]
      rintro ⟨h1, h2⟩
      have h3 : (T.atN t).ran k + 1 = sl * b + (p + 1) ∨ (T.atN t).ran k + 1 = sl * (b + 1) + (p + 1) := by
        rcases List.mem_append.1 hk with q | q
        · have := hr0 k q
          rw [if_pos h1] at this
          exact Or.inl (by omega)
        · have := hr1 k q
          rw [if_pos h1] at this
          exact Or.inr (by omega)
      rcases h3 with e | e <;> rw [e, Nat.mul_add_mod, Nat.mod_eq_of_lt hps] at h2 <;> omega
    have hline : (T.atN (t + 1)).q 0 = L0 ++ L1 := by
      rw [hq, hdo, h.line, List.filter_eq_self.2 fun k hk => by rw [hmov k hk]; rfl, List.filter_eq_nil_iff.2 fun k hk => by rw [hmov k hk]; simp, List.append_nil]
    refine ⟨L0, L1, b, p + 1, hline, hrest, h.nod, h.some, h.all, by rw [hTs]; exact hps, fun k hk => ?_, fun k hk => ?_⟩
    · rw [hran, hTs, hTc]
      have := hr0 k hk
      split <;> rename_i e
      · rw [if_pos e] at this; omega
      · rw [if_neg e] at this; omega
    · rw [hran, hTs, hTc]
      have := hr1 k hk
      split <;> rename_i e
      · rw [if_pos e] at this; omega
      · rw [if_neg e] at this; omega
  · -- all who ran are moved
    have hpe : p + 1 = sl := by omega
    have hmov : ∀ k ∈ L0 ++ L1, T.movN (T.atN t) (T.runN t) k = decide (k ∈ (L0 ++ L1).take c) := fun k hk => by
      unfold ThN.movN
      rw [hrun, hTs, decide_eq_decide]
      refine ⟨fun q => q.1, fun h1 => ⟨h1, ?_⟩⟩
      have h3 : (T.atN t).ran k + 1 = sl * (b + 1) ∨ (T.atN t).ran k + 1 = sl * (b + 1 + 1) := by
        have e1 := hmul b
        have e2 := hmul (b + 1)
        rcases List.mem_append.1 hk with q | q
        · have := hr0 k q
          rw [if_pos h1] at this
          exact Or.inl (by omega)
        · have := hr1 k q
          rw [if_pos h1] at this
          exact Or.inr (by omega)
      rcases h3 with e | e <;> rw [e] <;> exact Nat.mul_mod_right _ _
    have hline : (T.atN (t + 1)).q 0 = (L0 ++ L1).drop c ++ (L0 ++ L1).take c := by
      obtain ⟨f1, f2⟩ := filter_take h.nod c
      rw [hq, hdo, h.line, List.filter_congr (q := fun k => !decide (k ∈ (L0 ++ L1).take c)) fun k hk => by rw [hmov k hk], List.filter_congr (q := fun k => decide (k ∈ (L0 ++ L1).take c)) fun k hk => hmov k hk, f1, f2]
    have hnod2 : ((L0 ++ L1).drop c ++ (L0 ++ L1).take c).Pairwise fun a b => ¬ a = b := by
      have hn := h.nod
      rw [← List.take_append_drop c (L0 ++ L1), List.pairwise_append] at hn
      rw [List.pairwise_append]
      exact ⟨hn.2.1, hn.1, fun a ha b hb e => hn.2.2 b hb a ha e.symm⟩
    have hall2 : ∀ k, k < T.m → k ∈ (L0 ++ L1).drop c ++ (L0 ++ L1).take c := fun k hk => by
      have := h.all k hk
      rw [← List.take_append_drop c (L0 ++ L1)] at this
      rcases List.mem_append.1 this with q | q
      · exact List.mem_append_right _ q
      · exact List.mem_append_left _ q
    have hin : ∀ k, k ∈ (L0 ++ L1).take c → (k ∈ L0 → (T.atN (t + 1)).ran k = sl * (b + 1)) ∧ (k ∈ L1 → (T.atN (t + 1)).ran k = sl * (b + 1 + 1)) := fun k hk => by
      have e1 := hmul b
      have e2 := hmul (b + 1)
      rw [hran, if_pos hk]
      refine ⟨fun q => ?_, fun q => ?_⟩
      · have := hr0 k q
        rw [if_pos hk] at this
        omega
      · have := hr1 k q
        rw [if_pos hk] at this
        omega
    have hout : ∀ k, ¬ k ∈ (L0 ++ L1).take c → (k ∈ L0 → (T.atN (t + 1)).ran k = sl * b) ∧ (k ∈ L1 → (T.atN (t + 1)).ran k = sl * (b + 1)) := fun k hk => by
      rw [hran, if_neg hk]
      refine ⟨fun q => ?_, fun q => ?_⟩
      · have := hr0 k q
        rw [if_neg hk] at this
        omega
      · have := hr1 k q
        rw [if_neg hk] at this
        omega
    have hz : ∀ (k : Nat) (l : List Nat), (if k ∈ l then 0 else 0 : Nat) = 0 := fun k l => by split <;> rfl
    by_cases hc : c < L0.length
    · have ed : (L0 ++ L1).drop c = L0.drop c ++ L1 := List.drop_append_of_le_length (by omega)
      have et : (L0 ++ L1).take c = L0.take c := List.take_append_of_le_length (by omega)
      have e3 : (L0 ++ L1).drop c ++ (L0 ++ L1).take c = L0.drop c ++ (L1 ++ L0.take c) := by rw [ed, et, List.append_assoc]
      have hnd : ∀ k ∈ (L0 ++ L1).drop c, ¬ k ∈ (L0 ++ L1).take c := fun k hk => not_take h.nod hk
      rw [ed] at hnd
      refine ⟨L0.drop c, L1 ++ L0.take c, b, 0, by rw [hline, e3], hrest, by rw [← e3]; exact hnod2, fun q => ?_, fun k hk => by rw [← e3]; exact hall2 k hk, by rw [hTs]; exact hsl, fun k hk => ?_, fun k hk => ?_⟩
      · have := congrArg List.length q
        rw [List.length_drop] at this
        simp at this
        omega
      · rw [hz, hTs, Nat.add_zero]
        exact (hout k (hnd k (List.mem_append_left _ hk))).1 (List.mem_of_mem_drop hk)
      · rw [hz, hTs, Nat.add_zero]
        rcases List.mem_append.1 hk with q | q
        · exact (hout k (hnd k (List.mem_append_right _ q))).2 q
        · exact (hin k (by rw [et]; exact q)).1 (List.mem_of_mem_take q)
    · have ed : (L0 ++ L1).drop c = L1.drop (c - L0.length) := by rw [List.drop_append, List.drop_of_length_le (by omega), List.nil_append]
      have et : (L0 ++ L1).take c = L0 ++ L1.take (c - L0.length) := by rw [List.take_append, List.take_of_length_le (by omega)]
      have e3 : (L0 ++ L1).drop c ++ (L0 ++ L1).take c = (L1.drop (c - L0.length) ++ L0) ++ L1.take (c - L0.length) := by rw [ed, et, List.append_assoc]
      have hnd : ∀ k ∈ (L0 ++ L1).drop c, ¬ k ∈ (L0 ++ L1).take c := fun k hk => not_take h.nod hk
      rw [ed] at hnd
      refine ⟨L1.drop (c - L0.length) ++ L0, L1.take (c - L0.length), b + 1, 0, by rw [hline, e3], hrest, by rw [← e3]; exact hnod2, fun q => ?_, fun k hk => by rw [← e3]; exact hall2 k hk, by rw [hTs]; exact hsl, fun k hk => ?_, fun k hk => ?_⟩
      · exact hsome (List.append_eq_nil_iff.1 q).2
      · rw [hz, hTs, Nat.add_zero]
        rcases List.mem_append.1 hk with q | q
        · exact (hout k (hnd k q)).2 (List.mem_of_mem_drop q)
        · exact (hin k (by rw [et]; exact List.mem_append_left _ q)).1 q
      · rw [hz, hTs, Nat.add_zero]
        exact (hin k (by rw [et]; exact List.mem_append_right _ hk)).2 (List.mem_of_mem_take hk)
theorem fair_at {m c sl : Nat} (hm : 0 < m) (hsl : 0 < sl) : ∀ t, t ≤ 5000 → ∃ L0 L1 b p, FairN (fairT m c sl) ((fairT m c sl).atN t) L0 L1 b p
  | 0, _ => by
    have hq0 : ((fairT m c sl).atN 0).q 0 = List.range m := by
      show [] ++ (fairT m c sl).arrN 0 0 = _
      rw [List.nil_append]
      exact List.filter_eq_self.2 fun k _ => by simp [fairT]
    refine ⟨List.range m, [], 0, 0, by rw [List.append_nil]; exact hq0, fun j hj => ?_, by rw [List.append_nil]; exact nod_range m, fun q => ?_, fun k hk => by rw [List.append_nil]; exact List.mem_range.2 hk, hsl, fun k _ => ?_, fun k hk => by cases hk⟩
    · show [] ++ (fairT m c sl).arrN 0 j = []
      rw [List.nil_append]
      exact List.filter_eq_nil_iff.2 fun k _ => by simp [fairT]; exact fun e => hj e.symm
    · have := congrArg List.length q
      simp at this
      omega
    · show (0 : Nat) = _
      split <;> simp
  | t + 1, ht => by
    obtain ⟨L0, L1, b, p, h⟩ := fair_at (m := m) (c := c) hm hsl t (by omega)
    exact fair_step hsl (by omega) h
/-- CoresFair. -/
theorem fair_all {m c sl : Nat} (hsl : 0 < sl) {t : Nat} (ht : t ≤ 5000) {x y : Nat} (hx : x < m) (hy : y < m) : cntN (fairT m c sl) x t ≤ cntN (fairT m c sl) y t + sl := by
  obtain ⟨L0, L1, b, p, h⟩ := fair_at (m := m) (c := c) (sl := sl) (by omega) hsl t ht
  have := h.near (x := x) (y := y) hx hy
  rw [← ran_cnt, ← ran_cnt]
  exact this
end Go.Proofs.Ytningajaimbncaa
