/- Package ring, in plain terms: two queues in a ring of cells. No program in sight. -/
import Derived.Laws.BitsAllLaws
namespace Go.Proofs.Ytipkmmajhhcadaa

/-- A cell: whether it is the device's, and what is in it. -/
abbrev CeR := Bool × Int
/-- Round the end. -/
def wrR (n x : Nat) : Nat := if x < n then x else x - n
theorem wr_mod {n x : Nat} (h : x < 2 * n) : wrR n x = x % n := by
  unfold wrR
  by_cases h1 : x < n
  · rw [if_pos h1, Nat.mod_eq_of_lt h1]
  · rw [if_neg h1, Nat.mod_eq_sub_mod (by omega), Nat.mod_eq_of_lt (by omega)]
/-- From Take on: what was worked at, what is the device's, and nothing. -/
def seqR (n : Nat) (wk gv : List Int) : List CeR := wk.map (fun d => (false, d)) ++ gv.map (fun d => (true, d)) ++ List.replicate (n - wk.length - gv.length) (false, 0)
structure RgR (n : Nat) (cs : List CeR) (give take work : Nat) (wk gv : List Int) : Prop where
  n2 : 2 ≤ n
  len : cs.length = n
  room : wk.length + gv.length < n
  tk : take < n
  wo : work = wrR n (take + wk.length)
  gi : give = wrR n (take + wk.length + gv.length)
  cell : ∀ k, k < n → cs[wrR n (take + k)]? = (seqR n wk gv)[k]?
theorem seq_len {n : Nat} {wk gv : List Int} (h : wk.length + gv.length ≤ n) : (seqR n wk gv).length = n := by
  unfold seqR
  simp only [List.length_append, List.length_map, List.length_replicate]
  omega
theorem seq_at (n : Nat) (wk gv : List Int) {k : Nat} (hk : k < n) : (seqR n wk gv)[k]? = if k < wk.length then (wk[k]?).map (fun d => (false, d)) else if k < wk.length + gv.length then (gv[k - wk.length]?).map (fun d => (true, d)) else some (false, 0) := by
  unfold seqR
  by_cases h1 : k < wk.length
  · rw [if_pos h1, List.append_assoc, List.getElem?_append_left (by simpa using h1), List.getElem?_map]
  · rw [if_neg h1, List.append_assoc, List.getElem?_append_right (by simpa using h1), List.length_map]
    by_cases h2 : k < wk.length + gv.length
    · rw [if_pos h2, List.getElem?_append_left (by simp; omega), List.getElem?_map]
    · rw [if_neg h2, List.getElem?_append_right (by simp; omega), List.length_map, List.getElem?_replicate, if_pos (by omega)]
theorem wr_inj {n t j k : Nat} (hj : j < n) (hk : k < n) (h : wrR n (t + j) = wrR n (t + k)) : j = k := by
  unfold wrR at h
  split at h <;> split at h <;> omega
theorem wr_lt' {n t j : Nat} (ht : t < n) (hj : j < n) : wrR n (t + j) < n := by
  unfold wrR
  split <;> omega
theorem wr_next {n t j : Nat} (ht : t < n) (hj : j < n) : wrR n (wrR n (t + j) + 1) = wrR n (t + (j + 1)) ∨ j + 1 = n := by
  unfold wrR
  split <;> split <;> split <;> omega
theorem wr_step {n t j : Nat} (ht : t < n) (hj : j + 1 < n) : wrR n (wrR n (t + j) + 1) = wrR n (t + (j + 1)) := by
  unfold wrR
  split <;> split <;> split <;> omega
theorem wr_turn {n t j : Nat} (ht : t < n) (hj : j + 1 < n) : wrR n (wrR n (t + 1) + j) = wrR n (t + (j + 1)) := by
  unfold wrR
  split <;> split <;> split <;> omega
theorem ring_new {n : Nat} (h : 2 ≤ n) : RgR n (List.replicate n (false, 0)) 0 0 0 [] [] := by
  refine ⟨h, by simp, by simp; omega, by omega, by simp [wrR], by simp [wrR], fun k hk => ?_⟩
  rw [seq_at n [] [] hk, if_neg (by simp), if_neg (by simp), List.getElem?_replicate, if_pos (wr_lt' (by omega) hk)]
/-- RingGive. -/
theorem ring_give {n give take work : Nat} {cs : List CeR} {wk gv : List Int} (h : RgR n cs give take work wk gv) (hr : wk.length + gv.length + 1 < n) (d : Int) : RgR n (cs.set give (true, d)) (wrR n (give + 1)) take work wk (gv ++ [d]) := by
  have hm := h.tk
  refine ⟨h.n2, by rw [List.length_set]; exact h.len, by rw [List.length_append]; simp only [List.length_cons, List.length_nil]; omega, h.tk, h.wo, ?_, fun k hk => ?_⟩
  · rw [h.gi, List.length_append, List.length_cons, List.length_nil, Nat.add_assoc take wk.length gv.length, wr_step hm hr]
    congr 1
    omega
  · rw [seq_at n _ _ hk, List.length_append, List.length_cons, List.length_nil]
    have hc := h.cell k hk
    rw [seq_at n _ _ hk] at hc
    by_cases e : k = wk.length + gv.length
    · subst e
      rw [h.gi, Nat.add_assoc, List.getElem?_set_self (by rw [h.len]; exact wr_lt' hm (by omega)), if_neg (by omega), if_pos (by omega), Nat.add_sub_cancel_left, List.getElem?_append_right (Nat.le_refl _), Nat.sub_self]
      rfl
    · have hne : give ≠ wrR n (take + k) := fun q => e (by
        rw [h.gi, Nat.add_assoc] at q
        exact (wr_inj (by omega) hk q).symm)
      rw [List.getElem?_set_ne hne, hc]
      by_cases h1 : k < wk.length
      · rw [if_pos h1, if_pos h1]
      · rw [if_neg h1, if_neg h1]
        by_cases h2 : k < wk.length + gv.length
        · rw [if_pos h2, if_pos (by omega), List.getElem?_append_left (by omega)]
        · rw [if_neg h2, if_neg (by omega)]
/-- What lies at Work, and at Take. -/
theorem ring_at_work {n give take work : Nat} {cs : List CeR} {wk gv : List Int} {d : Int} (h : RgR n cs give take work wk (d :: gv)) : cs[work]? = some (true, d) := by
  have hr := h.room
  rw [List.length_cons] at hr
  have hc := h.cell wk.length (by omega)
  rw [seq_at n _ _ (by omega), if_neg (by omega), if_pos (by rw [List.length_cons]; omega), Nat.sub_self] at hc
  rw [h.wo, hc]
  rfl
theorem ring_at_take {n give take work : Nat} {cs : List CeR} {wk gv : List Int} {d : Int} (h : RgR n cs give take work (d :: wk) gv) : cs[take]? = some (false, d) := by
  have hr := h.room
  have hn := h.n2
  have ht := h.tk
  have hc := h.cell 0 (by omega)
  rw [seq_at n _ _ (by omega), if_pos (by simp)] at hc
  have e : wrR n (take + 0) = take := by unfold wrR; rw [if_pos (by omega)]; rfl
  rw [e] at hc
  exact hc
/-- RingWork. -/
theorem ring_work {n give take work : Nat} {cs : List CeR} {wk gv : List Int} {d x : Int} (h : RgR n cs give take work wk (d :: gv)) : RgR n (cs.set work (false, x)) give take (wrR n (work + 1)) (wk ++ [x]) gv := by
  have hm := h.tk
  have hr := h.room
  rw [List.length_cons] at hr
  refine ⟨h.n2, by rw [List.length_set]; exact h.len, by rw [List.length_append]; simp only [List.length_cons, List.length_nil]; omega, h.tk, ?_, ?_, fun k hk => ?_⟩
  · rw [h.wo, List.length_append, List.length_cons, List.length_nil, wr_step hm (by omega)]
  · have := h.gi
    rw [List.length_cons] at this
    rw [this, List.length_append, List.length_cons, List.length_nil]
    congr 1
    omega
  · rw [seq_at n _ _ hk, List.length_append, List.length_cons, List.length_nil]
    have hc := h.cell k hk
    rw [seq_at n _ _ hk, List.length_cons] at hc
    by_cases e : k = wk.length
    · subst e
      rw [h.wo, List.getElem?_set_self (by rw [h.len]; exact wr_lt' hm (by omega)), if_pos (by omega), List.getElem?_append_right (Nat.le_refl _), Nat.sub_self]
      rfl
    · have hne : work ≠ wrR n (take + k) := fun q => e (by
        rw [h.wo] at q
        exact (wr_inj (by omega) hk q).symm)
      rw [List.getElem?_set_ne hne, hc]
      by_cases h1 : k < wk.length
      · rw [if_pos h1, if_pos (by omega), List.getElem?_append_left h1]
      · rw [if_neg h1]
        by_cases h2 : k < wk.length + (gv.length + 1)
        · rw [if_pos h2, if_neg (show ¬ k < wk.length + (0 + 1) by omega), if_pos (show k < wk.length + (0 + 1) + gv.length by omega)]
          have e3 : k - wk.length = (k - (wk.length + (0 + 1))) + 1 := by omega
          rw [e3, List.getElem?_cons_succ]
        · rw [if_neg h2, if_neg (show ¬ k < wk.length + (0 + 1) by omega), if_neg (show ¬ k < wk.length + (0 + 1) + gv.length by omega)]
/-- RingTake. -/
theorem ring_take {n give take work : Nat} {cs : List CeR} {wk gv : List Int} {d : Int} (h : RgR n cs give take work (d :: wk) gv) : RgR n (cs.set take (false, 0)) give (wrR n (take + 1)) work wk gv := by
  have hm := h.tk
  have hn := h.n2
  have hr := h.room
  rw [List.length_cons] at hr
  have ht1 : wrR n (take + 1) < n := wr_lt' hm (by omega)
  refine ⟨h.n2, by rw [List.length_set]; exact h.len, by omega, ht1, ?_, ?_, fun k hk => ?_⟩
  · rw [h.wo, List.length_cons, wr_turn hm (by omega)]
  · have e := wr_turn (n := n) (t := take) (j := wk.length + gv.length) hm (by omega)
    rw [h.gi, List.length_cons, Nat.add_assoc (wrR n (take + 1)), e]
    congr 1
    omega
  · rw [seq_at n _ _ hk]
    by_cases e : k + 1 = n
    · have e2 : wrR n (wrR n (take + 1) + k) = take := by
        unfold wrR
        split <;> split <;> omega
      rw [e2, List.getElem?_set_self (by rw [h.len]; exact hm), if_neg (by omega), if_neg (by omega)]
    · have hc := h.cell (k + 1) (by omega)
      rw [seq_at n _ _ (by omega), List.length_cons] at hc
      have hne : take ≠ wrR n (take + (k + 1)) := fun q => by
        unfold wrR at q
        split at q <;> omega
      rw [wr_turn hm (by omega), List.getElem?_set_ne hne, hc]
      by_cases h1 : k < wk.length
      · rw [if_pos (by omega), if_pos h1, List.getElem?_cons_succ]
      · rw [if_neg (by omega), if_neg h1]
        by_cases h2 : k < wk.length + gv.length
        · rw [if_pos (by omega), if_pos h2]
          congr 2
          omega
        · rw [if_neg (by omega), if_neg h2]
/-- The operations, by two queues. -/
structure RoT where
  k : Int
  d : Int
structure StG where
  wk : List Int
  gv : List Int
  taken : List Int
  gives : Nat
/-- All bits inverted. -/
def invR (d : Int) : Int := IntKind.i64.wrap (-1 - d)
def errG (n : Nat) (s : StG) (o : RoT) : Int :=
  if o.k < 1 ∨ 3 < o.k then 5
  else if o.k = 1 then if s.wk.length + s.gv.length + 1 = n then 7 else 0
  else if o.k = 2 then if s.gv = [] then 3 else 0
  else if s.wk = [] then 3 else 0
def doG (s : StG) (o : RoT) : StG :=
  if o.k = 1 then ⟨s.wk, s.gv ++ [o.d], s.taken, s.gives + 1⟩
  else if o.k = 2 then ⟨s.wk ++ (s.gv.head?.map invR).toList, s.gv.tail, s.taken, s.gives⟩
  else ⟨s.wk.tail, s.gv, s.taken ++ s.wk.head?.toList, s.gives⟩
def stepG (n : Nat) (s : StG) (o : RoT) : StG := if errG n s o = 0 then doG s o else s
def runG (n : Nat) : StG → List RoT → StG
  | s, [] => s
  | s, o :: r => runG n (stepG n s o) r
def errsG (n : Nat) : StG → List RoT → List Int
  | _, [] => []
  | s, o :: r => errG n s o :: errsG n (stepG n s o) r
def newG : StG := ⟨[], [], [], 0⟩
/-- RingOrder: what was given, inverted, is what was taken, worked at, and will be worked at. -/
def givenG (n : Nat) : StG → List RoT → List Int
  | _, [] => []
  | s, o :: r => (if errG n s o = 0 ∧ o.k = 1 then [invR o.d] else []) ++ givenG n (stepG n s o) r
def allG (s : StG) : List Int := s.taken ++ s.wk ++ s.gv.map invR
theorem all_stepG (n : Nat) (s : StG) (o : RoT) : allG (stepG n s o) = allG s ++ if errG n s o = 0 ∧ o.k = 1 then [invR o.d] else [] := by
  unfold stepG
  by_cases he : errG n s o = 0
  · rw [if_pos he]
    unfold doG
    by_cases k1 : o.k = 1
    · rw [if_pos k1, if_pos ⟨he, k1⟩]
      simp [allG]
    · rw [if_neg k1, if_neg (show ¬ (errG n s o = 0 ∧ o.k = 1) from fun q => k1 q.2), List.append_nil]
      unfold errG at he
      by_cases k0 : o.k < 1 ∨ 3 < o.k
      · rw [if_pos k0] at he; cases he
      · rw [if_neg k0, if_neg k1] at he
        by_cases k2 : o.k = 2
        · rw [if_pos k2] at he ⊢
          cases hg : s.gv with
          | nil => rw [if_pos hg] at he; cases he
          | cons d r => simp [allG, hg]
        · rw [if_neg k2] at he ⊢
          cases hg : s.wk with
          | nil => rw [if_pos hg] at he; cases he
          | cons d r => simp [allG, hg]
  · rw [if_neg he, if_neg (fun q => he q.1), List.append_nil]
theorem all_runG (n : Nat) : ∀ (ops : List RoT) (s : StG), allG (runG n s ops) = allG s ++ givenG n s ops
  | [], s => by simp [runG, givenG]
  | o :: r, s => by rw [runG, all_runG n r, all_stepG, givenG, List.append_assoc]
/-- The cells follow. -/
theorem ring_step {n give take work : Nat} {cs : List CeR} {s : StG} (h : RgR n cs give take work s.wk s.gv) (o : RoT) : ∃ cs' give' take' work', RgR n cs' give' take' work' (stepG n s o).wk (stepG n s o).gv := by
  unfold stepG
  by_cases he : errG n s o = 0
  · rw [if_pos he]
    unfold doG
    unfold errG at he
    by_cases k0 : o.k < 1 ∨ 3 < o.k
    · rw [if_pos k0] at he; cases he
    · rw [if_neg k0] at he
      by_cases k1 : o.k = 1
      · rw [if_pos k1] at he ⊢
        have hr := h.room
        have : ¬ s.wk.length + s.gv.length + 1 = n := fun q => by rw [if_pos q] at he; cases he
        exact ⟨_, _, _, _, ring_give h (by omega) o.d⟩
      · rw [if_neg k1] at he ⊢
        by_cases k2 : o.k = 2
        · rw [if_pos k2] at he ⊢
          cases hg : s.gv with
          | nil => rw [if_pos hg] at he; cases he
          | cons d r =>
            rw [hg] at h
            exact ⟨_, _, _, _, ring_work (x := invR d) h⟩
        · rw [if_neg k2] at he ⊢
          cases hg : s.wk with
          | nil => rw [if_pos hg] at he; cases he
          | cons d r =>
            rw [hg] at h
            exact ⟨_, _, _, _, ring_take h⟩
  · rw [if_neg he]
    exact ⟨_, _, _, _, h⟩
theorem ring_run {n : Nat} : ∀ {ops : List RoT} {s : StG} {cs : List CeR} {give take work : Nat}, RgR n cs give take work s.wk s.gv → ∃ cs' give' take' work', RgR n cs' give' take' work' (runG n s ops).wk (runG n s ops).gv
  | [], s, cs, give, take, work, h => ⟨cs, give, take, work, h⟩
  | o :: r, s, cs, give, take, work, h => by
    obtain ⟨cs', give', take', work', h'⟩ := ring_step h o
    rw [runG]
    exact ring_run h'
end Go.Proofs.Ytipkmmajhhcadaa
