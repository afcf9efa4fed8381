/- Package work, in plain terms: what is done, what is being done (-1: nothing), what waits. No program in sight. -/
namespace Go.Proofs.Ytlmkbgclogbpfaa

/-- What is done about work. -/
structure WoT where
  k : Int
  i : Int
structure StO where
  done : List Int
  now : Int
  wait : List Int
/-- What is being done, and what waits. -/
def fullO (s : StO) : List Int := (if s.now = -1 then [] else [s.now]) ++ s.wait
def allO (s : StO) : List Int := s.done ++ fullO s
def errO (s : StO) (o : WoT) : Int :=
  if o.k < 1 ∨ 5 < o.k then 5
  else if (¬ o.k = 2 ∧ ¬ o.k = 3) ∧ (o.i < 0 ∨ 99 < o.i) then 2
  else if o.k = 1 then if o.i ∈ s.wait then 6 else 0
  else if o.k = 2 then if ¬ s.now = -1 then 6 else if s.wait = [] then 3 else 0
  else if o.k = 3 then if s.now = -1 then 3 else 0
  else if o.k = 4 then if o.i ∈ s.wait then 0 else 3
  else 0
/-- How many come up to the last i. -/
def cutN (i : Int) : List Int → Nat
  | [] => 0
  | x :: r => if i ∈ r then cutN i r + 1 else if x = i then 1 else 0
def flushO (s : StO) (i : Int) : StO := if cutN i (fullO s) = 0 then s else ⟨s.done ++ (fullO s).take (cutN i (fullO s)), -1, (fullO s).drop (cutN i (fullO s))⟩
def beginO (s : StO) : StO := ⟨s.done, s.wait.head?.getD (-1), s.wait.tail⟩
def endO (s : StO) : StO := ⟨s.done ++ [s.now], -1, s.wait⟩
def doO (s : StO) (o : WoT) : StO :=
  if o.k = 1 then ⟨s.done, s.now, s.wait ++ [o.i]⟩
  else if o.k = 2 then beginO s
  else if o.k = 3 then endO s
  else if o.k = 4 then ⟨s.done, s.now, s.wait.filter fun x => decide (¬ x = o.i)⟩
  else flushO s o.i
def stepO (s : StO) (o : WoT) : StO := if errO s o = 0 then doO s o else s
def runO : StO → List WoT → StO
  | s, [] => s
  | s, o :: r => runO (stepO s o) r
def errsO : StO → List WoT → List Int
  | _, [] => []
  | s, o :: r => errO s o :: errsO (stepO s o) r
def newO : StO := ⟨[], -1, []⟩
structure GoodO (s : StO) : Prop where
  nod : s.wait.Pairwise fun a b => ¬ a = b
  rng : ∀ x ∈ s.wait, 0 ≤ x ∧ x ≤ 99
  now : s.now = -1 ∨ (0 ≤ s.now ∧ s.now ≤ 99)
theorem good_newO : GoodO newO := ⟨List.Pairwise.nil, fun x h => (by cases h), Or.inl rfl⟩
theorem runO_append : ∀ {a b : List WoT} {s : StO}, runO s (a ++ b) = runO (runO s a) b
  | [], _, _ => rfl
  | _ :: a, _, _ => runO_append (a := a)
theorem errsO_append : ∀ {a b : List WoT} {s : StO}, errsO s (a ++ b) = errsO s a ++ errsO (runO s a) b
  | [], _, _ => rfl
  | _ :: a, b, s => by simp only [List.cons_append, errsO, runO]; rw [errsO_append]
theorem errsO_len : ∀ {a : List WoT} {s : StO}, (errsO s a).length = a.length
  | [], _ => rfl
  | _ :: a, s => by simp [errsO, errsO_len]
theorem runO_next {ops : List WoT} {j : Nat} {o : WoT} (h : ops[j]? = some o) (s : StO) : runO s (ops.take (j + 1)) = stepO (runO s (ops.take j)) o := by
  have e : ops.take (j + 1) = ops.take j ++ [o] := by rw [List.take_add_one, h]; rfl
  rw [e, runO_append]
  rfl
theorem errsO_next {ops : List WoT} {j : Nat} {o : WoT} (h : ops[j]? = some o) (s : StO) : errsO s (ops.take (j + 1)) = errsO s (ops.take j) ++ [errO (runO s (ops.take j)) o] := by
  have e : ops.take (j + 1) = ops.take j ++ [o] := by rw [List.take_add_one, h]; rfl
  rw [e, errsO_append]
  rfl
theorem errsO_at {ops : List WoT} {j : Nat} {o : WoT} (h : ops[j]? = some o) (s : StO) : (errsO s ops)[j]? = some (errO (runO s (ops.take j)) o) := by
  have hj := (List.getElem?_eq_some_iff.1 h).1
  have e : ops = ops.take j ++ ops.drop j := (List.take_append_drop j ops).symm
  have hd : ops.drop j = o :: ops.drop (j + 1) := by
    rw [List.drop_eq_getElem_cons hj, (List.getElem?_eq_some_iff.1 h).2]
  have hl : (errsO s (ops.take j)).length = j := by rw [errsO_len, List.length_take]; omega
  have e2 : errsO s ops = errsO s (ops.take j) ++ errsO (runO s (ops.take j)) (o :: ops.drop (j + 1)) := by
    have := congrArg (errsO s) e
    rw [errsO_append, hd] at this
    exact this
  rw [e2, List.getElem?_append_right (by omega), hl, Nat.sub_self]
  rfl
theorem runO_one (s : StO) (ops : List WoT) (o : WoT) : runO s (ops ++ [o]) = stepO (runO s ops) o := by
  rw [runO_append]; rfl
theorem errsO_one (s : StO) (ops : List WoT) (o : WoT) : errsO s (ops ++ [o]) = errsO s ops ++ [errO (runO s ops) o] := by
  rw [errsO_append]; rfl
/-- cutN. -/
theorem cut_zero {i : Int} : ∀ {l : List Int}, cutN i l = 0 ↔ ¬ i ∈ l
  | [] => by simp [cutN]
  | x :: r => by
    unfold cutN
    by_cases h : i ∈ r
    · rw [if_pos h]
      simp [h]
    · rw [if_neg h]
      by_cases e : x = i
      · rw [if_pos e]
        simp [e]
      · rw [if_neg e]
        simp [h]
        exact fun q => e q.symm
theorem cut_le {i : Int} : ∀ {l : List Int}, cutN i l ≤ l.length
  | [] => by simp [cutN]
  | x :: r => by
    unfold cutN
    have := cut_le (i := i) (l := r)
    split
    · rw [List.length_cons]; omega
    · split
      · rw [List.length_cons]; omega
      · omega
/-- One more behind. -/
theorem cut_snoc {i x : Int} : ∀ {l : List Int}, cutN i (l ++ [x]) = if x = i then l.length + 1 else cutN i l
  | [] => by simp [cutN]
  | y :: r => by
    rw [List.cons_append, cutN, cut_snoc (l := r)]
    by_cases e : x = i
    · subst e
      rw [if_pos (by simp), if_pos rfl, if_pos rfl]
      simp
    · have hm : i ∈ r ++ [x] ↔ i ∈ r := by
        rw [List.mem_append, List.mem_singleton]
        exact ⟨fun h => h.elim id (fun q => absurd q.symm e), Or.inl⟩
      rw [if_neg e, if_neg e, cutN]
      by_cases h : i ∈ r
      · rw [if_pos h, if_pos (hm.2 h)]
      · rw [if_neg h, if_neg (fun q => h (hm.1 q))]
theorem cut_last {i : Int} : ∀ {l : List Int}, i ∈ l → (l.take (cutN i l)).getLast? = some i
  | [], h => by cases h
  | x :: r, h => by
    unfold cutN
    by_cases hr : i ∈ r
    · rw [if_pos hr, List.take_succ_cons]
      have h1 := cut_last hr
      have hne : r.take (cutN i r) ≠ [] := fun e => by rw [e] at h1; cases h1
      rw [List.getLast?_cons, h1]
      rfl
    · rw [if_neg hr]
      rcases List.mem_cons.1 h with e | e
      · rw [if_pos e.symm, List.take_succ_cons, List.take_zero, e]
        rfl
      · exact absurd e hr
theorem cut_out {i : Int} : ∀ {l : List Int}, ¬ i ∈ l.drop (cutN i l)
  | [] => by simp
  | x :: r => by
    unfold cutN
    by_cases hr : i ∈ r
    · rw [if_pos hr, List.drop_succ_cons]
      exact cut_out
    · rw [if_neg hr]
      by_cases e : x = i
      · rw [if_pos e, List.drop_succ_cons, List.drop_zero]
        exact hr
      · rw [if_neg e, List.drop_zero, List.mem_cons]
        rintro (q | q)
        · exact e q.symm
        · exact hr q
/-- A flush is one step, and a flush. -/
def goO (s : StO) : StO := if s.now = -1 then beginO s else endO s
def busyO (s : StO) (i : Int) : Prop := i ∈ s.wait ∨ s.now = i
theorem mem_full {s : StO} {i : Int} (hi : ¬ i = -1) : i ∈ fullO s ↔ busyO s i := by
  unfold fullO busyO
  rw [List.mem_append]
  by_cases h : s.now = -1
  · rw [if_pos h]
    constructor
    · rintro (q | q)
      · cases q
      · exact Or.inl q
    · rintro (q | q)
      · exact Or.inr q
      · exact absurd (q.symm.trans h) hi
  · rw [if_neg h, List.mem_singleton]
    exact ⟨fun q => q.elim (fun e => Or.inr e.symm) Or.inl, fun q => q.elim Or.inr (fun e => Or.inl e.symm)⟩
theorem flush_idle {s : StO} {i : Int} (hi : ¬ i = -1) (h : ¬ busyO s i) : flushO s i = s := by
  unfold flushO
  rw [if_pos (cut_zero.2 fun q => h ((mem_full hi).1 q))]
theorem flush_busy {s : StO} {i : Int} (hi : ¬ i = -1) (h : busyO s i) : flushO s i = ⟨s.done ++ (fullO s).take (cutN i (fullO s)), -1, (fullO s).drop (cutN i (fullO s))⟩ := by
  unfold flushO
  rw [if_neg fun q => cut_zero.1 q ((mem_full hi).2 h)]
theorem flush_go {s : StO} (hg : GoodO s) {i : Int} (hi : ¬ i = -1) (h : busyO s i) : flushO (goO s) i = flushO s i := by
  unfold goO
  by_cases hn : s.now = -1
  · rw [if_pos hn]
    obtain ⟨d, c, w⟩ := s
    simp only at hn
    subst hn
    have hw : i ∈ w := h.elim id (fun q => absurd q.symm hi)
    obtain ⟨x, r, rfl⟩ : ∃ x r, w = x :: r := by
      cases w with
      | nil => cases hw
      | cons x r => exact ⟨x, r, rfl⟩
    have hx : ¬ x = -1 := by
      have := hg.rng x List.mem_cons_self
      omega
    have e : fullO (beginO ⟨d, -1, x :: r⟩) = fullO ⟨d, -1, x :: r⟩ := by simp [fullO, beginO, hx]
    have hb : busyO (beginO ⟨d, -1, x :: r⟩) i := (mem_full hi).1 (by rw [e]; exact (mem_full hi).2 h)
    rw [flush_busy hi hb, flush_busy hi h, e]
    rfl
  · rw [if_neg hn]
    have hf : fullO s = s.now :: s.wait := by unfold fullO; rw [if_neg hn]; rfl
    have he : fullO (endO s) = s.wait := by simp [fullO, endO]
    rw [flush_busy hi h, hf]
    by_cases hw : i ∈ s.wait
    · have hb : busyO (endO s) i := Or.inl hw
      rw [flush_busy hi hb, he, cutN, if_pos hw, List.take_succ_cons, List.drop_succ_cons]
      simp [endO]
    · have hc : s.now = i := h.elim (fun q => absurd q hw) id
      have hb : ¬ busyO (endO s) i := fun q => q.elim hw (fun q => hi q.symm)
      rw [flush_idle hi hb, cutN, if_neg hw, if_pos hc, List.take_succ_cons, List.drop_succ_cons, List.take_zero, List.drop_zero]
      rfl
/-- How long a flush can go on. -/
def leftO (s : StO) : Nat := 2 * s.wait.length + if s.now = -1 then 0 else 1
theorem left_go {s : StO} {i : Int} (hi : ¬ i = -1) (h : busyO s i) : leftO (goO s) < leftO s := by
  unfold goO leftO
  by_cases hn : s.now = -1
  · rw [if_pos hn, if_pos hn]
    have hw : i ∈ s.wait := h.elim id (fun q => absurd (q.symm.trans hn) hi)
    have : 0 < s.wait.length := List.length_pos_of_mem hw
    have h2 : (beginO s).wait.length = s.wait.length - 1 := by simp [beginO]
    by_cases q : (beginO s).now = -1
    · rw [if_pos q]; omega
    · rw [if_neg q]; omega
  · rw [if_neg hn, if_neg hn]
    simp [endO]
theorem good_begin {s : StO} (h : GoodO s) : GoodO (beginO s) := by
  obtain ⟨d, c, w⟩ := s
  cases w with
  | nil => exact ⟨h.nod, h.rng, Or.inl rfl⟩
  | cons x r =>
    have hn := h.nod
    rw [List.pairwise_cons] at hn
    exact ⟨hn.2, fun y hy => h.rng y (List.mem_cons_of_mem _ hy), Or.inr (h.rng x List.mem_cons_self)⟩
theorem good_end {s : StO} (h : GoodO s) : GoodO (endO s) := ⟨h.nod, h.rng, Or.inl rfl⟩
theorem good_go {s : StO} (h : GoodO s) : GoodO (goO s) := by
  unfold goO
  split
  · exact good_begin h
  · exact good_end h
/-- A flush leaves a part of what waits. -/
theorem flush_wait (s : StO) {i : Int} (hi : ¬ i = -1) (h : busyO s i) : ∃ k, (flushO s i).wait = s.wait.drop k := by
  rw [flush_busy hi h]
  unfold fullO
  by_cases hn : s.now = -1
  · rw [if_pos hn]
    exact ⟨_, rfl⟩
  · rw [if_neg hn, List.singleton_append]
    have : ¬ cutN i (s.now :: s.wait) = 0 := fun q => cut_zero.1 q (by
      have := (mem_full (s := s) hi).2 h
      unfold fullO at this
      rw [if_neg hn, List.singleton_append] at this
      exact this)
    obtain ⟨k, hk⟩ : ∃ k, cutN i (s.now :: s.wait) = k + 1 := ⟨cutN i (s.now :: s.wait) - 1, by omega⟩
    exact ⟨k, by simp only [hk, List.drop_succ_cons]⟩
theorem good_flush {s : StO} (h : GoodO s) {i : Int} (hi : ¬ i = -1) : GoodO (flushO s i) := by
  by_cases hb : busyO s i
  · obtain ⟨k, hk⟩ := flush_wait s hi hb
    refine ⟨by rw [hk]; exact h.nod.sublist (List.drop_sublist _ _), fun x hx => h.rng x (by rw [hk] at hx; exact List.mem_of_mem_drop hx), ?_⟩
    rw [flush_busy hi hb]
    exact Or.inl rfl
  · rw [flush_idle hi hb]
    exact h
theorem err_rng {s : StO} {o : WoT} (h : errO s o = 0) : (1 ≤ o.k ∧ o.k ≤ 5) ∧ (¬ o.k = 2 → ¬ o.k = 3 → 0 ≤ o.i ∧ o.i ≤ 99) := by
  unfold errO at h
  by_cases h1 : o.k < 1 ∨ 5 < o.k
  · rw [if_pos h1] at h; cases h
  · rw [if_neg h1] at h
    refine ⟨by omega, fun h2 h3 => ?_⟩
    by_cases h4 : o.i < 0 ∨ 99 < o.i
    · rw [if_pos ⟨⟨h2, h3⟩, h4⟩] at h; cases h
    · omega
theorem err_1 {s : StO} {i : Int} (h : errO s ⟨1, i⟩ = 0) : ¬ i ∈ s.wait := fun q => by
  have hr := (err_rng h).2 (by simp) (by simp)
  simp only at hr
  have : errO s ⟨1, i⟩ = 6 := by unfold errO; simp [q]; omega
  rw [this] at h
  cases h
theorem err_2 {s : StO} {i : Int} (h : errO s ⟨2, i⟩ = 0) : s.now = -1 ∧ ¬ s.wait = [] := by
  unfold errO at h
  simp at h
  by_cases h1 : s.now = -1
  · refine ⟨h1, fun q => ?_⟩
    simp [h1, q] at h
  · simp [h1] at h
theorem err_3 {s : StO} {i : Int} (h : errO s ⟨3, i⟩ = 0) : ¬ s.now = -1 := by
  unfold errO at h
  simp at h
  exact h
theorem err_4 {s : StO} {i : Int} (h : errO s ⟨4, i⟩ = 0) : i ∈ s.wait := by
  have hr := (err_rng h).2 (by simp) (by simp)
  simp only at hr
  by_cases hq : i ∈ s.wait
  · exact hq
  · have : errO s ⟨4, i⟩ = 3 := by unfold errO; simp [hq]; omega
    rw [this] at h
    cases h
theorem err_kinds {s : StO} {o : WoT} (h : errO s o = 0) : o.k = 1 ∨ o.k = 2 ∨ o.k = 3 ∨ o.k = 4 ∨ o.k = 5 := by
  have := (err_rng h).1
  omega
theorem good_stepO {s : StO} (h : GoodO s) (o : WoT) : GoodO (stepO s o) := by
  unfold stepO
  by_cases he : errO s o = 0
  · rw [if_pos he]
    obtain ⟨k, i⟩ := o
    have hr := (err_rng he).2
    rcases err_kinds he with e | e | e | e | e <;> simp only at e <;> subst e
    · have hn := err_1 he
      refine ⟨?_, fun x hx => ?_, h.now⟩
      · show (s.wait ++ [i]).Pairwise _
        rw [List.pairwise_append]
        exact ⟨h.nod, List.pairwise_singleton _ _, fun a ha b hb e => by rw [List.mem_singleton] at hb; subst hb; subst e; exact hn ha⟩
      · have hx' : x ∈ s.wait ++ [i] := hx
        rcases List.mem_append.1 hx' with q | q
        · exact h.rng x q
        · rw [List.mem_singleton] at q
          subst q
          exact hr (by simp) (by simp)
    · exact good_begin h
    · exact good_end h
    · exact ⟨h.nod.filter _, fun x hx => h.rng x (List.mem_filter.1 hx).1, h.now⟩
    · have := hr (by simp) (by simp)
      simp only at this
      exact good_flush (i := i) h (by omega)
  · rw [if_neg he]
    exact h
theorem good_runO : ∀ {ops : List WoT} {s : StO}, GoodO s → GoodO (runO s ops)
  | [], _, h => h
  | o :: r, s, h => by rw [runO]; exact good_runO (good_stepO h o)
/-- What becomes of all that was queued. -/
theorem all_begin {s : StO} (h : GoodO s) (hn : s.now = -1) (hw : ¬ s.wait = []) : allO (beginO s) = allO s := by
  obtain ⟨d, c, w⟩ := s
  simp only at hn
  subst hn
  cases w with
  | nil => exact absurd rfl hw
  | cons x r =>
    have hx : ¬ x = -1 := by
      have := h.rng x List.mem_cons_self
      omega
    simp [allO, fullO, beginO, hx]
theorem all_end {s : StO} (hn : ¬ s.now = -1) : allO (endO s) = allO s := by
  simp [allO, fullO, endO, hn]
theorem all_flush (s : StO) {i : Int} (hi : ¬ i = -1) : allO (flushO s i) = allO s := by
  by_cases hb : busyO s i
  · rw [flush_busy hi hb]
    unfold allO
    conv => lhs; unfold fullO
    simp
    rfl
  · rw [flush_idle hi hb]
theorem len_del {l : List Int} (h : l.Pairwise fun a b => ¬ a = b) {i : Int} (hi : i ∈ l) : (l.filter fun x => decide (¬ x = i)).length + 1 = l.length := by
  induction l with
  | nil => cases hi
  | cons a r ih =>
    rw [List.pairwise_cons] at h
    by_cases e : a = i
    · rw [List.filter_cons_of_neg (by simpa using e)]
      have : r.filter (fun x => decide (¬ x = i)) = r := List.filter_eq_self.2 fun b hb => by
        have := h.1 b hb
        rw [e] at this
        simpa using fun q : b = i => this q.symm
      rw [this]
      rfl
    · rw [List.filter_cons_of_pos (by simpa using e), List.length_cons, List.length_cons]
      rcases List.mem_cons.1 hi with q | q
      · exact absurd q.symm e
      · rw [ih h.2 q]
/-- One step, for WorkOnce: what was queued is there, in order, unless somebody was cancelled. -/
theorem all_step {s : StO} (h : GoodO s) (o : WoT) :
    (errO s o = 0 → o.k = 1 → allO (stepO s o) = allO s ++ [o.i]) ∧ (errO s o = 0 → o.k = 4 → (allO (stepO s o)).length + 1 = (allO s).length) ∧ (¬ (errO s o = 0 ∧ (o.k = 1 ∨ o.k = 4)) → allO (stepO s o) = allO s) := by
  unfold stepO
  by_cases he : errO s o = 0
  · rw [if_pos he]
    obtain ⟨k, i⟩ := o
    have hr := (err_rng he).2
    rcases err_kinds he with e | e | e | e | e <;> simp only at e <;> subst e
    · refine ⟨fun _ _ => ?_, fun _ q => by simp at q, fun q => absurd ⟨he, Or.inl rfl⟩ q⟩
      simp [doO, allO, fullO]
    · refine ⟨fun _ q => by simp at q, fun _ q => by simp at q, fun _ => ?_⟩
      have := err_2 he
      exact all_begin h this.1 this.2
    · refine ⟨fun _ q => by simp at q, fun _ q => by simp at q, fun _ => ?_⟩
      exact all_end (err_3 he)
    · refine ⟨fun _ q => by simp at q, fun _ _ => ?_, fun q => absurd ⟨he, Or.inr rfl⟩ q⟩
      have h4 := len_del h.nod (err_4 he)
      simp only [doO, allO, fullO, List.length_append]
      simp at h4 ⊢
      omega
    · refine ⟨fun _ q => by simp at q, fun _ q => by simp at q, fun _ => ?_⟩
      have := hr (by simp) (by simp)
      simp only at this
      exact all_flush (i := i) s (by omega)
  · rw [if_neg he]
    exact ⟨fun q => absurd q he, fun q => absurd q he, fun _ => rfl⟩
/-- What the law gathers of the first k: who was queued; whether somebody was cancelled. -/
def quO (s : StO) : List WoT → List Int
  | [] => []
  | o :: r => (if errO s o = 0 ∧ o.k = 1 then [o.i] else []) ++ quO (stepO s o) r
def canO (s : StO) : List WoT → Bool
  | [] => false
  | o :: r => decide (errO s o = 0 ∧ o.k = 4) || canO (stepO s o) r
theorem quO_append : ∀ {a b : List WoT} {s : StO}, quO s (a ++ b) = quO s a ++ quO (runO s a) b
  | [], _, _ => rfl
  | o :: a, b, s => by simp only [List.cons_append, quO, runO]; rw [quO_append, List.append_assoc]
theorem canO_append : ∀ {a b : List WoT} {s : StO}, canO s (a ++ b) = (canO s a || canO (runO s a) b)
  | [], _, _ => rfl
  | o :: a, b, s => by simp only [List.cons_append, canO, runO]; rw [canO_append, Bool.or_assoc]
theorem quO_next {ops : List WoT} {j : Nat} {o : WoT} (h : ops[j]? = some o) (s : StO) : quO s (ops.take (j + 1)) = quO s (ops.take j) ++ if errO (runO s (ops.take j)) o = 0 ∧ o.k = 1 then [o.i] else [] := by
  have e : ops.take (j + 1) = ops.take j ++ [o] := by rw [List.take_add_one, h]; rfl
  rw [e, quO_append]
  simp [quO]
theorem canO_next {ops : List WoT} {j : Nat} {o : WoT} (h : ops[j]? = some o) (s : StO) : canO s (ops.take (j + 1)) = (canO s (ops.take j) || decide (errO (runO s (ops.take j)) o = 0 ∧ o.k = 4)) := by
  have e : ops.take (j + 1) = ops.take j ++ [o] := by rw [List.take_add_one, h]; rfl
  rw [e, canO_append]
  simp [canO]
theorem once_O : ∀ {ops : List WoT} {s : StO}, GoodO s → (allO (runO s ops)).length ≤ (allO s ++ quO s ops).length ∧ (canO s ops = false → allO (runO s ops) = allO s ++ quO s ops) ∧ (canO s ops = true → (allO (runO s ops)).length < (allO s ++ quO s ops).length)
  | [], s, _ => ⟨by simp [runO, quO], fun _ => by simp [runO, quO], fun h => by simp [canO] at h⟩
  | o :: r, s, hg => by
    obtain ⟨h1, h2, h3⟩ := all_step hg o
    obtain ⟨i1, i2, i3⟩ := once_O (ops := r) (good_stepO hg o)
    rw [runO, quO, canO]
    by_cases he : errO s o = 0
    · by_cases k1 : o.k = 1
      · have e1 := h1 he k1
        have c1 : decide (errO s o = 0 ∧ o.k = 4) = false := by simp; omega
        rw [e1] at i1 i2 i3
        rw [if_pos ⟨he, k1⟩, c1, Bool.false_or, ← List.append_assoc]
        exact ⟨i1, i2, i3⟩
      · rw [if_neg (fun q => k1 q.2), List.nil_append]
        by_cases k4 : o.k = 4
        · have e4 := h2 he k4
          have c4 : decide (errO s o = 0 ∧ o.k = 4) = true := by simp [he, k4]
          rw [c4, Bool.true_or]
          rw [List.length_append] at *
          refine ⟨by omega, fun q => by simp at q, fun _ => by omega⟩
        · have e0 := h3 (fun q => q.2.elim k1 k4)
          have c4 : decide (errO s o = 0 ∧ o.k = 4) = false := by simp [k4]
          rw [e0] at i1 i2 i3
          rw [c4, Bool.false_or]
          exact ⟨i1, i2, i3⟩
    · have e0 := h3 (fun q => he q.1)
      have c4 : decide (errO s o = 0 ∧ o.k = 4) = false := by simp [he]
      rw [e0] at i1 i2 i3
      rw [if_neg (fun q => he q.1), List.nil_append, c4, Bool.false_or]
      exact ⟨i1, i2, i3⟩
/-- No more is done, or waits, than there were operations. -/
theorem all_len : ∀ {ops : List WoT} {s : StO}, GoodO s → (allO (runO s ops)).length ≤ (allO s).length + ops.length
  | [], s, _ => Nat.le_refl _
  | o :: r, s, hg => by
    obtain ⟨h1, h2, h3⟩ := all_step hg o
    have ih := all_len (ops := r) (good_stepO hg o)
    rw [runO, List.length_cons]
    have : (allO (stepO s o)).length ≤ (allO s).length + 1 := by
      by_cases he : errO s o = 0
      · by_cases k1 : o.k = 1
        · rw [h1 he k1]; simp
        · by_cases k4 : o.k = 4
          · have := h2 he k4; omega
          · rw [h3 (fun q => q.2.elim k1 k4)]; omega
      · rw [h3 (fun q => he q.1)]; omega
    omega
/-- WorkFlushed, of one flush. -/
theorem flush_says {s : StO} {i : Int} (hi : ¬ i = -1) :
    (¬ (flushO s i).now = i) ∧ (¬ i ∈ (flushO s i).wait) ∧ (∃ d, (flushO s i).done = s.done ++ d) ∧ (¬ busyO s i → flushO s i = s) ∧ (busyO s i → (flushO s i).done.getLast? = some i ∧ (flushO s i).now = -1) := by
  by_cases hb : busyO s i
  · rw [flush_busy hi hb]
    refine ⟨fun q => hi q.symm, cut_out, ⟨_, rfl⟩, fun q => absurd hb q, fun _ => ⟨?_, rfl⟩⟩
    have hl := cut_last ((mem_full hi).2 hb)
    simp only
    rw [List.getLast?_append, hl]
    rfl
  · rw [flush_idle hi hb]
    exact ⟨fun q => hb (Or.inr q), fun q => hb (Or.inl q), ⟨[], by simp⟩, fun _ => rfl, fun q => absurd q hb⟩
/-- WorkAgain: queued again and flushed. -/
theorem again_O {s : StO} (hg : GoodO s) (hn : ¬ s.now = -1) (hw : ¬ s.now ∈ s.wait) :
    errO s ⟨1, s.now⟩ = 0 ∧ runO s [⟨1, s.now⟩, ⟨5, s.now⟩] = ⟨s.done ++ (s.now :: (s.wait ++ [s.now])), -1, []⟩ := by
  have hr := hg.now.resolve_left hn
  have h1 : errO s ⟨1, s.now⟩ = 0 := by unfold errO; simp [hw]; omega
  have e1 : stepO s ⟨1, s.now⟩ = ⟨s.done, s.now, s.wait ++ [s.now]⟩ := by unfold stepO; rw [if_pos h1]; rfl
  have h5 : ∀ t : StO, errO t ⟨5, s.now⟩ = 0 := fun t => by unfold errO; simp; omega
  refine ⟨h1, ?_⟩
  rw [runO, e1, runO, runO]
  unfold stepO
  rw [if_pos (h5 _)]
  show flushO ⟨s.done, s.now, s.wait ++ [s.now]⟩ s.now = _
  rw [flush_busy (s := ⟨s.done, s.now, s.wait ++ [s.now]⟩) hn (Or.inr rfl)]
  have hf : fullO ⟨s.done, s.now, s.wait ++ [s.now]⟩ = s.now :: (s.wait ++ [s.now]) := by simp [fullO, hn]
  have hc : cutN s.now (s.now :: (s.wait ++ [s.now])) = (s.now :: (s.wait ++ [s.now])).length := by
    rw [cutN, if_pos (by simp), cut_snoc, if_pos rfl]
    simp
  rw [hf, hc, List.take_length, List.drop_length]
theorem again_count {s : StO} (hw : ¬ s.now ∈ s.wait) : (s.now :: (s.wait ++ [s.now])).count s.now = 2 := by
  have : s.wait.count s.now = 0 := List.count_eq_zero.2 hw
  rw [List.count_cons, List.count_append, this]
  simp
end Go.Proofs.Ytlmkbgclogbpfaa
