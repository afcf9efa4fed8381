/- Package ring, in plain terms: one operation more. No program in sight. -/
import Derived.Test.YtipkmmajhhcadaaRingU
namespace Go.Proofs.Ytipkmmajhhcadaa

theorem runG_next {n : Nat} {ops : List RoT} {k : Nat} {o : RoT} (ho : ops[k]? = some o) (s : StG) : runG n s (ops.take (k + 1)) = stepG n (runG n s (ops.take k)) o := by
  rw [List.take_add_one, ho, runG_append]
  rfl
theorem errsG_next {n : Nat} {ops : List RoT} {k : Nat} {o : RoT} (ho : ops[k]? = some o) (s : StG) : errsG n s (ops.take (k + 1)) = errsG n s (ops.take k) ++ [errG n (runG n s (ops.take k)) o] := by
  rw [List.take_add_one, ho, errsG_append]
  rfl
theorem errsG_len (n : Nat) : ∀ (ops : List RoT) (s : StG), (errsG n s ops).length = ops.length
  | [], _ => rfl
  | o :: r, s => by rw [errsG, List.length_cons, errsG_len n r, List.length_cons]
theorem do_taken {n : Nat} {s : StG} {o : RoT} (he : errG n s o = 0) : (doG s o).taken = s.taken ++ if o.k = 3 then [gotG s o] else [] := by
  unfold errG at he
  unfold doG gotG
  by_cases k0 : o.k < 1 ∨ 3 < o.k
  · rw [if_pos k0] at he; cases he
  · rw [if_neg k0] at he
    by_cases k1 : o.k = 1
    · rw [if_pos k1, if_neg (by omega), List.append_nil]
    · rw [if_neg k1] at he ⊢
      by_cases k2 : o.k = 2
      · rw [if_pos k2, if_neg (by omega), List.append_nil]
      · rw [if_neg k2] at he ⊢
        rw [if_pos (by omega), if_pos (by omega)]
        cases hg : s.wk with
        | nil => rw [if_pos hg] at he; cases he
        | cons d q => rfl
theorem taken_step {n : Nat} (s : StG) (o : RoT) : (stepG n s o).taken.length ≤ s.taken.length + 1 := by
  unfold stepG
  by_cases he : errG n s o = 0
  · rw [if_pos he, do_taken he]
    split <;> simp
  · rw [if_neg he]
    omega
theorem taken_run (n : Nat) : ∀ (ops : List RoT) (s : StG), (runG n s ops).taken.length ≤ s.taken.length + ops.length
  | [], s => by simp [runG]
  | o :: r, s => by
    have h1 := taken_run n r (stepG n s o)
    have h2 := taken_step (n := n) s o
    rw [runG, List.length_cons]
    omega
theorem taken_new (n : Nat) (ops : List RoT) : (runG n newG ops).taken.length ≤ ops.length := by
  have h := taken_run n ops newG
  have e : newG.taken.length = 0 := rfl
  omega
/-- The indices are below n. -/
theorem tells_lt {n : Nat} {r : RiR} {s : StG} (h : r.Tells n s) : r.give < n ∧ r.take < n ∧ r.work < n := by
  obtain ⟨hg, hw, _⟩ := ring_rgt h
  exact ⟨hg, h.tk, hw⟩
/-- The queues and how many were taken tell the ring. -/
theorem tells_uniq {n : Nat} {r r' : RiR} {s : StG} (h : r.Tells n s) (h' : r'.Tells n s) (hi : IdxG n r s) (hi' : IdxG n r' s) : r = r' := by
  obtain ⟨cs, g, t, k⟩ := r
  obtain ⟨cs', g', t', k'⟩ := r'
  have e : t = t' := hi.1.trans hi'.1.symm
  subst e
  obtain ⟨e1, e2, e3⟩ := ring_uniq h h'
  simp only at e1 e2 e3
  subst e1 e2 e3
  rfl
theorem givenG_append (n : Nat) : ∀ (a b : List RoT) (s : StG), givenG n s (a ++ b) = givenG n s a ++ givenG n (runG n s a) b
  | [], _, _ => rfl
  | o :: r, b, s => by rw [List.cons_append, givenG, givenG_append n r b, runG, givenG, List.append_assoc]
theorem givenG_next {n : Nat} {ops : List RoT} {k : Nat} {o : RoT} (ho : ops[k]? = some o) (s : StG) : givenG n s (ops.take (k + 1)) = givenG n s (ops.take k) ++ if errG n (runG n s (ops.take k)) o = 0 ∧ o.k = 1 then [invR o.d] else [] := by
  rw [List.take_add_one, ho, givenG_append]
  show _ ++ (_ ++ []) = _
  rw [List.append_nil]
theorem given_len (n : Nat) : ∀ (ops : List RoT) (s : StG), (givenG n s ops).length ≤ ops.length
  | [], _ => Nat.le_refl _
  | o :: r, s => by
    have h := given_len n r (stepG n s o)
    rw [givenG, List.length_append, List.length_cons]
    split
    · simp only [List.length_cons, List.length_nil]; omega
    · simp only [List.length_nil]; omega
theorem errsG_at {n : Nat} : ∀ {ops : List RoT} {k : Nat} {o : RoT} (s : StG), ops[k]? = some o → (errsG n s ops)[k]? = some (errG n (runG n s (ops.take k)) o)
  | [], _, _, _, h => by cases h
  | p :: r, 0, o, s, h => by
    simp only [List.getElem?_cons_zero, Option.some.injEq] at h
    subst h
    rfl
  | p :: r, k + 1, o, s, h => by
    rw [errsG, List.getElem?_cons_succ, List.take_succ_cons, runG]
    exact errsG_at _ (by simpa using h)
/-- What was taken is the beginning of what was given. -/
theorem taken_given (n : Nat) (ops : List RoT) : (runG n newG ops).taken.length ≤ (givenG n newG ops).length ∧ (givenG n newG ops).take (runG n newG ops).taken.length = (runG n newG ops).taken := by
  have h := all_runG n ops newG
  have e0 : allG newG = [] := rfl
  rw [e0, List.nil_append] at h
  rw [← h]
  unfold allG
  refine ⟨by simp only [List.length_append]; omega, ?_⟩
  rw [List.append_assoc, List.take_left']
  rfl
theorem drain_next (n m : Nat) (s : StG) : runG n s (drainG (m + 1)) = runG n (runG n s (drainG m)) roundG := by
  rw [← runG_append]
  congr 1
  unfold drainG
  rw [List.replicate_succ', List.flatten_append]
  simp
theorem round_two (n : Nat) (s : StG) : runG n s roundG = stepG n (stepG n s ⟨2, 0⟩) ⟨3, 0⟩ := rfl
theorem ring_idx {n : Nat} (hn : 2 ≤ n) : ∀ (ops : List RoT) (r : RiR) (s : StG), r.Tells n s → IdxG n r s → ∃ r', RiR.Tells n r' (runG n s ops) ∧ IdxG n r' (runG n s ops)
  | [], r, s, h1, h2 => ⟨r, h1, h2⟩
  | o :: rest, r, s, h1, h2 => by
    rw [runG]
    unfold stepG
    by_cases he : errG n s o = 0
    · rw [if_pos he]
      exact ring_idx hn rest _ _ (do_tie h1 o he).1 (idx_step h1 h2 o he)
    · rw [if_neg he]
      exact ring_idx hn rest _ _ h1 h2
theorem ring_of {n : Nat} (hn : 2 ≤ n) (ops : List RoT) : ∃ r, RiR.Tells n r (runG n newG ops) ∧ IdxG n r (runG n newG ops) :=
  ring_idx hn ops ⟨List.replicate n (false, 0), 0, 0, 0⟩ newG (ring_new hn) (idx_new n _ rfl)
theorem run_room {n : Nat} (hn : 2 ≤ n) (ops : List RoT) : (runG n newG ops).wk.length + (runG n newG ops).gv.length < n := by
  obtain ⟨r, h, _⟩ := ring_of hn ops
  exact h.room
theorem gives_le (n : Nat) : ∀ (ops : List RoT) (s : StG), (runG n s ops).gives ≤ s.gives + ops.length
  | [], s => by simp [runG]
  | o :: r, s => by
    have h1 := gives_le n r (stepG n s o)
    have h2 : (stepG n s o).gives ≤ s.gives + 1 := by
      unfold stepG doG
      split
      · split
        · exact Nat.le_refl _
        · split <;> simp
      · omega
    rw [runG, List.length_cons]
    omega
theorem errG_1 (n : Nat) (s : StG) (d : Int) : errG n s ⟨1, d⟩ = if s.wk.length + s.gv.length + 1 = n then 7 else 0 := by
  unfold errG
  rw [if_neg (show ¬ ((1 : Int) < 1 ∨ (3 : Int) < 1) by decide), if_pos rfl]
theorem errG_2 (n : Nat) (s : StG) (d : Int) : errG n s ⟨2, d⟩ = if s.gv = [] then 3 else 0 := by
  unfold errG
  rw [if_neg (show ¬ ((2 : Int) < 1 ∨ (3 : Int) < 2) by decide), if_neg (show ¬ (2 : Int) = 1 by decide), if_pos rfl]
theorem errG_3 (n : Nat) (s : StG) (d : Int) : errG n s ⟨3, d⟩ = if s.wk = [] then 3 else 0 := by
  unfold errG
  rw [if_neg (show ¬ ((3 : Int) < 1 ∨ (3 : Int) < 3) by decide), if_neg (show ¬ (3 : Int) = 1 by decide), if_neg (show ¬ (3 : Int) = 2 by decide)]
end Go.Proofs.Ytipkmmajhhcadaa
