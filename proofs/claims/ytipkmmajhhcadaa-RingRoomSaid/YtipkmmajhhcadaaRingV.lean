/- Package ring, in plain terms: one operation more. No program in sight. -/
import Derived.Test.YtipkmmajhhcadaaRingU
namespace Go.Proofs.Ytipkmmajhhcadaa

theorem runG_next {n : Nat} {ops : List RoT} {k : Nat} {o : RoT} (ho : ops[k]? = some o) (s : StG) : runG n s (ops.take (k + 1)) = stepG n (runG n s (ops.take k)) o := by
  rw [List.take_add_one, ho, runG_append]
  rfl
theorem errsG_next {n : Nat} {ops : List RoT} {k : Nat} {o : RoT} (ho : ops[k]? = some o) (s : StG) : errsG n s (ops.take (k + 1)) = errsG n s (ops.take k) ++ [errG n (runG n s (ops.take k)) o] := by
  rw [List.take_add_one, ho, errsG_append]
  rfl
theorem errsG_len (n : Nat) : ∀ (ops : List RoT) (s : StG), (errsG n s ops).length = ops.length
  | [], _ => rfl
  | o :: r, s => by rw [errsG, List.length_cons, errsG_len n r, List.length_cons]
theorem do_taken {n : Nat} {s : StG} {o : RoT} (he : errG n s o = 0) : (doG s o).taken = s.taken ++ if o.k = 3 then [gotG s o] else [] := by
  unfold errG at he
  unfold doG gotG
  by_cases k0 : o.k < 1 ∨ 3 < o.k
  · rw [if_pos k0] at he; cases he
  · rw [if_neg k0] at he
    by_cases k1 : o.k = 1
    · rw [if_pos k1, if_neg (by omega), List.append_nil]
    · rw [if_neg k1] at he ⊢
      by_cases k2 : o.k = 2
      · rw [if_pos k2, if_neg (by omega), List.append_nil]
      · rw [if_neg k2] at he ⊢
        rw [if_pos (by omega), if_pos (by omega)]
        cases hg : s.wk with
        | nil => rw [if_pos hg] at he; cases he
        | cons d q => rfl
theorem taken_step {n : Nat} (s : StG) (o : RoT) : (stepG n s o).taken.length ≤ s.taken.length + 1 := by
  unfold stepG
  by_cases he : errG n s o = 0
  · rw [if_pos he, do_taken he]
    split <;> simp
  · rw [if_neg he]
    omega
theorem taken_run (n : Nat) : ∀ (ops : List RoT) (s : StG), (runG n s ops).taken.length ≤ s.taken.length + ops.length
  | [], s => by simp [runG]
  | o :: r, s => by
    have h1 := taken_run n r (stepG n s o)
    have h2 := taken_step (n := n) s o
    rw [runG, List.length_cons]
    omega
theorem taken_new (n : Nat) (ops : List RoT) : (runG n newG ops).taken.length ≤ ops.length := by
  have h := taken_run n ops newG
  have e : newG.taken.length = 0 := rfl
  omega
/-- The indices are below n. -/
theorem tells_lt {n : Nat} {r : RiR} {s : StG} (h : r.Tells n s) : r.give < n ∧ r.take < n ∧ r.work < n := by
  obtain ⟨hg, hw, _⟩ := ring_rgt h
  exact ⟨hg, h.tk, hw⟩
/-- The queues and how many were taken tell the ring. -/
theorem tells_uniq {n : Nat} {r r' : RiR} {s : StG} (h : r.Tells n s) (h' : r'.Tells n s) (hi : IdxG n r s) (hi' : IdxG n r' s) : r = r' := by
  obtain ⟨cs, g, t, k⟩ := r
  obtain ⟨cs', g', t', k'⟩ := r'
  have e : t = t' := hi.1.trans hi'.1.symm
  subst e
  obtain ⟨e1, e2, e3⟩ := ring_uniq h h'
  simp only at e1 e2 e3
  subst e1 e2 e3
  rfl
end Go.Proofs.Ytipkmmajhhcadaa
