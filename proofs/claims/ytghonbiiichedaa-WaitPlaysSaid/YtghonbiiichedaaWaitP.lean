/- Package wait, in plain terms: who waits as one row of (thread, 0 up | 1 asleep | 2 woken). No program in sight. -/
namespace Go.Proofs.Ytghonbiiichedaa

/-- What a thread does. -/
structure WvT where
  k : Int
  t : Int
abbrev WtT := Int × Nat
structure StV where
  line : List WtT
  got : List Int
  things : Nat
def wakeV : List WtT → List WtT
  | [] => []
  | q :: r => if q.2 = 2 then q :: wakeV r else (q.1, 2) :: r
def stV (l : List WtT) (t : Int) : Option Nat := (l.find? fun q => decide (q.1 = t)).map (·.2)
def putV (l : List WtT) (t : Int) (x : Nat) : List WtT := l.map fun q => if q.1 = t then (q.1, x) else q
def outV (l : List WtT) (t : Int) : List WtT := l.filter fun q => decide (¬ q.1 = t)
def errV (s : StV) (o : WvT) : Int :=
  if o.k < 1 ∨ 5 < o.k then 5
  else if o.t < 0 ∨ 63 < o.t then 2
  else if (o.k = 1 ∨ o.k = 2 ∨ o.k = 3) ∧ stV s.line o.t = some 1 then 7
  else if o.k = 1 then 0
  else if o.k = 2 then if stV s.line o.t = none then 3 else if s.things = 0 then 6 else 0
  else if o.k = 3 then if stV s.line o.t = none then 3 else 0
  else if o.k = 4 then if 400 ≤ s.things then 4 else 0
  else 0
def doV (s : StV) (o : WvT) : StV :=
  if o.k = 1 then ⟨if stV s.line o.t = none then s.line ++ [(o.t, 0)] else putV s.line o.t 0, s.got, s.things⟩
  else if o.k = 2 then ⟨if s.things = 1 then outV s.line o.t else wakeV (outV s.line o.t), s.got ++ [o.t], s.things - 1⟩
  else if o.k = 3 then ⟨if stV s.line o.t = some 0 ∧ s.things = 0 then putV s.line o.t 1 else s.line, s.got, s.things⟩
  else if o.k = 4 then ⟨wakeV s.line, s.got, s.things + 1⟩
  else ⟨s.line.map fun q => (q.1, 2), s.got, s.things⟩
def stepV (s : StV) (o : WvT) : StV := if errV s o = 0 then doV s o else s
def runV : StV → List WvT → StV
  | s, [] => s
  | s, o :: r => runV (stepV s o) r
def errsV : StV → List WvT → List Int
  | _, [] => []
  | s, o :: r => errV s o :: errsV (stepV s o) r
def newV : StV := ⟨[], [], 0⟩
def slpV (s : StV) : List Int := (s.line.filter fun q => decide (q.2 = 1)).map (·.1)
structure GoodV (s : StV) : Prop where
  nod : s.line.Pairwise fun a b => ¬ a.1 = b.1
  rng : ∀ q ∈ s.line, (0 ≤ q.1 ∧ q.1 ≤ 63) ∧ q.2 ≤ 2
  most : s.things ≤ 400
  up : 0 < s.things → ¬ s.line = [] → ∃ q ∈ s.line, ¬ q.2 = 1
theorem good_newV : GoodV newV := ⟨List.Pairwise.nil, fun x h => (by cases h), by decide, fun h => absurd h (by decide)⟩
theorem runV_append : ∀ {a b : List WvT} {s : StV}, runV s (a ++ b) = runV (runV s a) b
  | [], _, _ => rfl
  | _ :: a, _, _ => runV_append (a := a)
theorem errsV_append : ∀ {a b : List WvT} {s : StV}, errsV s (a ++ b) = errsV s a ++ errsV (runV s a) b
  | [], _, _ => rfl
  | _ :: a, b, s => by simp only [List.cons_append, errsV, runV]; rw [errsV_append]
theorem errsV_len : ∀ {a : List WvT} {s : StV}, (errsV s a).length = a.length
  | [], _ => rfl
  | _ :: a, s => by simp [errsV, errsV_len]
theorem runV_next {ops : List WvT} {j : Nat} {o : WvT} (h : ops[j]? = some o) (s : StV) : runV s (ops.take (j + 1)) = stepV (runV s (ops.take j)) o := by
  have e : ops.take (j + 1) = ops.take j ++ [o] := by rw [List.take_add_one, h]; rfl
  rw [e, runV_append]
  rfl
theorem errsV_next {ops : List WvT} {j : Nat} {o : WvT} (h : ops[j]? = some o) (s : StV) : errsV s (ops.take (j + 1)) = errsV s (ops.take j) ++ [errV (runV s (ops.take j)) o] := by
  have e : ops.take (j + 1) = ops.take j ++ [o] := by rw [List.take_add_one, h]; rfl
  rw [e, errsV_append]
  rfl
theorem errsV_at {ops : List WvT} {j : Nat} {o : WvT} (h : ops[j]? = some o) (s : StV) : (errsV s ops)[j]? = some (errV (runV s (ops.take j)) o) := by
  have hj := (List.getElem?_eq_some_iff.1 h).1
  have e : ops = ops.take j ++ ops.drop j := (List.take_append_drop j ops).symm
  have hd : ops.drop j = o :: ops.drop (j + 1) := by
    rw [List.drop_eq_getElem_cons hj, (List.getElem?_eq_some_iff.1 h).2]
  have hl : (errsV s (ops.take j)).length = j := by rw [errsV_len, List.length_take]; omega
  have e2 : errsV s ops = errsV s (ops.take j) ++ errsV (runV s (ops.take j)) (o :: ops.drop (j + 1)) := by
    have := congrArg (errsV s) e
    rw [errsV_append, hd] at this
    exact this
  rw [e2, List.getElem?_append_right (by omega), hl, Nat.sub_self]
  rfl
theorem runV_one (s : StV) (ops : List WvT) (o : WvT) : runV s (ops ++ [o]) = stepV (runV s ops) o := by
  rw [runV_append]; rfl
theorem errsV_one (s : StV) (ops : List WvT) (o : WvT) : errsV s (ops ++ [o]) = errsV s ops ++ [errV (runV s ops) o] := by
  rw [errsV_append]; rfl
theorem stV_none {l : List WtT} {t : Int} : stV l t = none ↔ ∀ q ∈ l, ¬ q.1 = t := by
  unfold stV
  rw [Option.map_eq_none_iff, List.find?_eq_none]
  simp
theorem stV_some {l : List WtT} (h : l.Pairwise fun a b => ¬ a.1 = b.1) {t : Int} {x : Nat} : stV l t = some x ↔ (t, x) ∈ l := by
  induction l with
  | nil => simp [stV]
  | cons q r ih =>
    rw [List.pairwise_cons] at h
    unfold stV at *
    by_cases e : q.1 = t
    · rw [List.find?_cons_of_pos (by simpa using e), Option.map_some, List.mem_cons]
      constructor
      · intro h1
        exact Or.inl (Prod.ext e.symm (Option.some.inj h1).symm)
      · rintro (h1 | h1)
        · rw [← h1]
        · exact absurd e (h.1 _ h1)
    · rw [List.find?_cons_of_neg (by simpa using e), ih h.2, List.mem_cons]
      constructor
      · exact Or.inr
      · rintro (h1 | h1)
        · exact absurd (by rw [← h1]) e
        · exact h1
/-- Waking keeps who waits. -/
theorem wake_names : ∀ (l : List WtT), (wakeV l).map (·.1) = l.map (·.1)
  | [] => rfl
  | q :: r => by
    unfold wakeV
    split
    · rw [List.map_cons, List.map_cons, wake_names r]
    · rfl
theorem put_names (l : List WtT) (t : Int) (x : Nat) : (putV l t x).map (·.1) = l.map (·.1) := by
  unfold putV
  rw [List.map_map]
  refine List.map_congr_left fun q _ => ?_
  simp only [Function.comp]
  split <;> rfl
theorem all_names (l : List WtT) : (l.map fun q => ((q.1, 2) : WtT)).map (·.1) = l.map (·.1) := by
  rw [List.map_map]
  rfl
theorem nod_names {l l' : List WtT} (e : l'.map (·.1) = l.map (·.1)) (h : l.Pairwise fun a b => ¬ a.1 = b.1) : l'.Pairwise fun a b => ¬ a.1 = b.1 := by
  have h1 : (l.map (·.1)).Pairwise fun a b => ¬ a = b := List.pairwise_map.2 h
  rw [← e] at h1
  exact List.pairwise_map.1 h1
theorem mem_wake {q : WtT} : ∀ {l : List WtT}, q ∈ wakeV l → q ∈ l ∨ (q.2 = 2 ∧ ∃ x, (q.1, x) ∈ l)
  | [], h => by cases h
  | a :: r, h => by
    unfold wakeV at h
    split at h
    · rcases List.mem_cons.1 h with e | e
      · exact Or.inl (by rw [e]; exact List.mem_cons_self)
      · rcases mem_wake e with h1 | ⟨h1, x, h2⟩
        · exact Or.inl (List.mem_cons_of_mem _ h1)
        · exact Or.inr ⟨h1, x, List.mem_cons_of_mem _ h2⟩
    · rcases List.mem_cons.1 h with e | e
      · exact Or.inr ⟨by rw [e], a.2, by rw [e]; exact List.mem_cons_self⟩
      · exact Or.inl (List.mem_cons_of_mem _ e)
/-- Behind a waking somebody is woken, if anybody waits. -/
theorem wake_some : ∀ {l : List WtT}, ¬ l = [] → ∃ q ∈ wakeV l, q.2 = 2
  | [], h => absurd rfl h
  | a :: r, _ => by
    unfold wakeV
    split
    · rename_i e
      exact ⟨a, List.mem_cons_self, e⟩
    · exact ⟨(a.1, 2), List.mem_cons_self, rfl⟩
theorem wake_nil {l : List WtT} : wakeV l = [] ↔ l = [] := by
  cases l with
  | nil => simp [wakeV]
  | cons a r =>
    unfold wakeV
    split <;> simp
theorem rng_wake {l : List WtT} (h : ∀ q ∈ l, (0 ≤ q.1 ∧ q.1 ≤ 63) ∧ q.2 ≤ 2) : ∀ q ∈ wakeV l, (0 ≤ q.1 ∧ q.1 ≤ 63) ∧ q.2 ≤ 2 := fun q hq => by
  rcases mem_wake hq with h1 | ⟨h1, x, h2⟩
  · exact h q h1
  · exact ⟨(h _ h2).1, by omega⟩
theorem errV_rng {s : StV} {o : WvT} (h : errV s o = 0) : (1 ≤ o.k ∧ o.k ≤ 5) ∧ 0 ≤ o.t ∧ o.t ≤ 63 := by
  unfold errV at h
  by_cases h1 : o.k < 1 ∨ 5 < o.k
  · rw [if_pos h1] at h; cases h
  · rw [if_neg h1] at h
    by_cases h2 : o.t < 0 ∨ 63 < o.t
    · rw [if_pos h2] at h; cases h
    · omega
theorem errV_kinds {s : StV} {o : WvT} (h : errV s o = 0) : o.k = 1 ∨ o.k = 2 ∨ o.k = 3 ∨ o.k = 4 ∨ o.k = 5 := by
  have := (errV_rng h).1
  omega
theorem errV_self {s : StV} {o : WvT} (h : errV s o = 0) (hk : o.k = 1 ∨ o.k = 2 ∨ o.k = 3) : ¬ stV s.line o.t = some 1 := fun q => by
  have hr := errV_rng h
  unfold errV at h
  rw [if_neg (by omega), if_neg (by omega), if_pos ⟨hk, q⟩] at h
  cases h
theorem errV_2 {s : StV} {t : Int} (h : errV s ⟨2, t⟩ = 0) : ¬ stV s.line t = none ∧ 0 < s.things := by
  have hr := errV_rng h
  have hs := errV_self h (Or.inr (Or.inl rfl))
  simp only at hr hs
  unfold errV at h
  rw [if_neg (by simp), if_neg (by simp only; omega), if_neg (fun q => hs q.2), if_neg (by simp), if_pos rfl] at h
  simp only at h
  by_cases h1 : stV s.line t = none
  · rw [if_pos h1] at h; cases h
  · rw [if_neg h1] at h
    refine ⟨h1, ?_⟩
    by_cases h2 : s.things = 0
    · rw [if_pos h2] at h; cases h
    · omega
theorem errV_4 {s : StV} {t : Int} (h : errV s ⟨4, t⟩ = 0) : s.things < 400 := by
  have hr := errV_rng h
  simp only at hr
  unfold errV at h
  rw [if_neg (by simp), if_neg (by simp only; omega), if_neg (by simp), if_neg (by simp), if_neg (by simp), if_neg (by simp), if_pos rfl] at h
  by_cases h2 : 400 ≤ s.things
  · rw [if_pos h2] at h; cases h
  · omega
theorem good_stepV {s : StV} (h : GoodV s) (o : WvT) : GoodV (stepV s o) := by
  unfold stepV
  by_cases he : errV s o = 0
  · rw [if_pos he]
    obtain ⟨k, t⟩ := o
    have hr := (errV_rng he).2
    simp only at hr
    rcases errV_kinds he with e | e | e | e | e <;> simp only at e <;> subst e
    · have hns := errV_self he (Or.inl rfl)
      simp only at hns
      show GoodV ⟨if stV s.line t = none then s.line ++ [(t, 0)] else putV s.line t 0, s.got, s.things⟩
      by_cases h1 : stV s.line t = none
      · rw [if_pos h1]
        refine ⟨?_, fun q hq => ?_, h.most, fun _ _ => ⟨(t, 0), by simp, by simp⟩⟩
        · show (s.line ++ [(t, 0)]).Pairwise _
          rw [List.pairwise_append]
          exact ⟨h.nod, List.pairwise_singleton _ _, fun a ha b hb => by rw [List.mem_singleton] at hb; rw [hb]; exact stV_none.1 h1 a ha⟩
        · rcases List.mem_append.1 hq with q1 | q1
          · exact h.rng q q1
          · rw [List.mem_singleton] at q1
            rw [q1]
            exact ⟨hr, by simp⟩
      · rw [if_neg h1]
        refine ⟨nod_names (put_names _ _ _) h.nod, fun q hq => ?_, h.most, fun _ hne => ?_⟩
        · obtain ⟨a, ha, rfl⟩ := List.mem_map.1 hq
          have := h.rng a ha
          split
          · exact ⟨this.1, by simp⟩
          · exact this
        · obtain ⟨x, hx⟩ : ∃ x, stV s.line t = some x := by
            cases hq : stV s.line t with
            | none => exact absurd hq h1
            | some x => exact ⟨x, rfl⟩
          have hm := (stV_some h.nod).1 hx
          exact ⟨(t, 0), List.mem_map.2 ⟨(t, x), hm, by simp⟩, by simp⟩
    · obtain ⟨h1, h2⟩ := errV_2 he
      show GoodV ⟨if s.things = 1 then outV s.line t else wakeV (outV s.line t), s.got ++ [t], s.things - 1⟩
      have hm := h.most
      have hrg : ∀ q ∈ outV s.line t, (0 ≤ q.1 ∧ q.1 ≤ 63) ∧ q.2 ≤ 2 := fun q hq => h.rng q (List.mem_filter.1 hq).1
      by_cases h3 : s.things = 1
      · rw [if_pos h3]
        exact ⟨h.nod.filter _, hrg, by simp only; omega, fun q => by simp only at q; omega⟩
      · rw [if_neg h3]
        refine ⟨nod_names (wake_names _) (h.nod.filter _), rng_wake hrg, by simp only; omega, fun _ hne => ?_⟩
        obtain ⟨q, hq, e⟩ := wake_some (l := outV s.line t) (fun q => hne (wake_nil.2 q))
        exact ⟨q, hq, by omega⟩
    · show GoodV ⟨if stV s.line t = some 0 ∧ s.things = 0 then putV s.line t 1 else s.line, s.got, s.things⟩
      by_cases h3 : stV s.line t = some 0 ∧ s.things = 0
      · rw [if_pos h3]
        refine ⟨nod_names (put_names _ _ _) h.nod, fun q hq => ?_, h.most, fun q => by have := h3.2; simp only at q; omega⟩
        obtain ⟨a, ha, rfl⟩ := List.mem_map.1 hq
        have := h.rng a ha
        split
        · exact ⟨this.1, by simp⟩
        · exact this
      · rw [if_neg h3]
        exact h
    · have h4 := errV_4 he
      show GoodV ⟨wakeV s.line, s.got, s.things + 1⟩
      refine ⟨nod_names (wake_names _) h.nod, rng_wake h.rng, by simp only; omega, fun _ hne => ?_⟩
      obtain ⟨q, hq, e⟩ := wake_some (l := s.line) (fun q => hne (wake_nil.2 q))
      exact ⟨q, hq, by omega⟩
    · show GoodV ⟨s.line.map fun q => (q.1, 2), s.got, s.things⟩
      refine ⟨nod_names (all_names _) h.nod, fun q hq => ?_, h.most, fun _ hne => ?_⟩
      · obtain ⟨a, ha, rfl⟩ := List.mem_map.1 hq
        exact ⟨(h.rng a ha).1, by simp⟩
      · cases hl : s.line with
        | nil => exact absurd (by simp only [hl]; rfl) hne
        | cons a r => exact ⟨(a.1, 2), by simp, by simp⟩
  · rw [if_neg he]
    exact h
theorem good_runV : ∀ {ops : List WvT} {s : StV}, GoodV s → GoodV (runV s ops)
  | [], _, h => h
  | o :: r, s, h => by rw [runV]; exact good_runV (good_stepV h o)
/-- WaitNever: who waits and does not sleep gets one, where things are there. -/
theorem look_gets {s : StV} (hg : GoodV s) (h0 : 0 < s.things) {t : Int} {x : Nat} (hm : (t, x) ∈ s.line) (hx : ¬ x = 1) : errV s ⟨2, t⟩ = 0 ∧ (stepV s ⟨2, t⟩).got = s.got ++ [t] := by
  have hs := (stV_some hg.nod).2 hm
  have hr := (hg.rng _ hm).1
  simp only at hr
  have he : errV s ⟨2, t⟩ = 0 := by
    unfold errV
    simp only
    rw [hs, if_neg (by omega), if_neg (by omega), if_neg (by simp; omega), if_neg (by omega), if_pos trivial, if_neg (by simp), if_neg (by omega)]
  refine ⟨he, ?_⟩
  unfold stepV
  rw [if_pos he]
  rfl
theorem slp_mem {s : StV} {t : Int} : t ∈ slpV s ↔ (t, 1) ∈ s.line := by
  unfold slpV
  rw [List.mem_map]
  constructor
  · rintro ⟨q, hq, rfl⟩
    obtain ⟨h1, h2⟩ := List.mem_filter.1 hq
    rw [decide_eq_true_eq] at h2
    rw [← h2]
    exact h1
  · intro h
    exact ⟨(t, 1), List.mem_filter.2 ⟨h, by simp⟩, rfl⟩
theorem never_V {s : StV} (hg : GoodV s) (h0 : 0 < s.things) (h1 : ¬ slpV s = []) : ∃ t : Nat, t < 64 ∧ ¬ (t : Int) ∈ slpV s ∧ errV s ⟨2, t⟩ = 0 ∧ (stepV s ⟨2, t⟩).got = s.got ++ [(t : Int)] := by
  have hne : ¬ s.line = [] := fun q => h1 (by unfold slpV; rw [q]; rfl)
  obtain ⟨⟨t, x⟩, hq, hx⟩ := hg.up h0 hne
  simp only at hx
  have hr := (hg.rng _ hq).1
  simp only at hr
  obtain ⟨n, rfl⟩ : ∃ n : Nat, t = n := ⟨t.toNat, by omega⟩
  refine ⟨n, by omega, fun q => ?_, (look_gets hg h0 hq hx).1, (look_gets hg h0 hq hx).2⟩
  have h3 := slp_mem.1 q
  have h4 := (stV_some hg.nod).2 h3
  rw [(stV_some hg.nod).2 hq] at h4
  exact hx (Option.some.inj h4)
/-- WaitSum. -/
def cntV (s : StV) : List WvT → Nat
  | [] => 0
  | o :: r => (if errV s o = 0 ∧ o.k = 4 then 1 else 0) + cntV (stepV s o) r
theorem cntV_append : ∀ {a b : List WvT} {s : StV}, cntV s (a ++ b) = cntV s a + cntV (runV s a) b
  | [], _, _ => by simp [cntV, runV]
  | o :: a, b, s => by simp only [List.cons_append, cntV, runV]; rw [cntV_append]; omega
theorem cntV_next {ops : List WvT} {j : Nat} {o : WvT} (h : ops[j]? = some o) (s : StV) : cntV s (ops.take (j + 1)) = cntV s (ops.take j) + if errV (runV s (ops.take j)) o = 0 ∧ o.k = 4 then 1 else 0 := by
  have e : ops.take (j + 1) = ops.take j ++ [o] := by rw [List.take_add_one, h]; rfl
  rw [e, cntV_append]
  simp [cntV]
theorem sum_step (s : StV) (o : WvT) : (stepV s o).got.length + (stepV s o).things = s.got.length + s.things + if errV s o = 0 ∧ o.k = 4 then 1 else 0 := by
  unfold stepV
  by_cases he : errV s o = 0
  · rw [if_pos he]
    obtain ⟨k, t⟩ := o
    rcases errV_kinds he with e | e | e | e | e <;> simp only at e <;> subst e
    · simp [doV]
    · obtain ⟨_, h2⟩ := errV_2 he
      simp [doV]
      omega
    · simp [doV]
    · simp only [doV]
      simp [he]
      omega
    · simp [doV]
  · rw [if_neg he, if_neg (fun q => he q.1)]
    omega
theorem sum_run : ∀ (ops : List WvT) (s : StV), (runV s ops).got.length + (runV s ops).things = s.got.length + s.things + cntV s ops
  | [], s => by simp [runV, cntV]
  | o :: r, s => by
    rw [runV, sum_run r, sum_step, cntV]
    omega
theorem got_le : ∀ (ops : List WvT) (s : StV), (runV s ops).got.length ≤ s.got.length + ops.length
  | [], s => Nat.le_refl _
  | o :: r, s => by
    have h1 := got_le r (stepV s o)
    have h2 : (stepV s o).got.length ≤ s.got.length + 1 := by
      unfold stepV
      by_cases he : errV s o = 0
      · rw [if_pos he]
        obtain ⟨k, t⟩ := o
        rcases errV_kinds he with e | e | e | e | e <;> simp only at e <;> subst e <;> simp [doV]
      · rw [if_neg he]; omega
    rw [runV, List.length_cons]
    omega
/-- WaitFirst. -/
def sleepsV (l : List Int) : List WtT := l.map fun t => (t, 1)
def upsV (l : List Int) : List WvT := l.flatMap fun t => [⟨1, t⟩, ⟨3, t⟩]
theorem put_last {l : List WtT} {t : Int} (h : ∀ q ∈ l, ¬ q.1 = t) (x y : Nat) : putV (l ++ [(t, x)]) t y = l ++ [(t, y)] := by
  unfold putV
  rw [List.map_append]
  congr 1
  · conv => rhs; rw [← List.map_id l]
    refine List.map_congr_left fun q hq => ?_
    rw [if_neg (h q hq)]
    rfl
  · simp
theorem st_last {l : List WtT} {t : Int} (h : ∀ q ∈ l, ¬ q.1 = t) (x : Nat) : stV (l ++ [(t, x)]) t = some x := by
  unfold stV
  rw [List.find?_append, List.find?_eq_none.2 fun q hq => by simpa using h q hq]
  simp
theorem up_step {l : List Int} {got : List Int} {t : Int} (ht : 0 ≤ t ∧ t ≤ 63) (hn : ¬ t ∈ l) : runV ⟨sleepsV l, got, 0⟩ [⟨1, t⟩, ⟨3, t⟩] = ⟨sleepsV (l ++ [t]), got, 0⟩ := by
  have hq : ∀ q ∈ sleepsV l, ¬ q.1 = t := fun q hq e => by
    obtain ⟨x, hx, rfl⟩ := List.mem_map.1 hq
    simp only at e
    exact hn (e ▸ hx)
  have h0 : stV (sleepsV l) t = none := stV_none.2 hq
  have e1 : errV ⟨sleepsV l, got, 0⟩ ⟨1, t⟩ = 0 := by
    unfold errV
    simp only
    rw [h0, if_neg (by omega), if_neg (by omega), if_neg (by simp), if_pos trivial]
  have s1 : stepV ⟨sleepsV l, got, 0⟩ ⟨1, t⟩ = ⟨sleepsV l ++ [(t, 0)], got, 0⟩ := by
    unfold stepV
    rw [if_pos e1]
    show (⟨if stV (sleepsV l) t = none then sleepsV l ++ [(t, 0)] else putV (sleepsV l) t 0, got, 0⟩ : StV) = _
    rw [if_pos h0]
  have e3 : errV ⟨sleepsV l ++ [(t, 0)], got, 0⟩ ⟨3, t⟩ = 0 := by
    unfold errV
    simp only
    rw [st_last hq, if_neg (by omega), if_neg (by omega), if_neg (by simp), if_neg (by omega), if_neg (by omega), if_pos trivial, if_neg (by simp)]
  rw [runV, s1, runV, runV]
  unfold stepV
  rw [if_pos e3]
  show (⟨if stV (sleepsV l ++ [(t, 0)]) t = some 0 ∧ 0 = 0 then putV (sleepsV l ++ [(t, 0)]) t 1 else sleepsV l ++ [(t, 0)], got, 0⟩ : StV) = _
  rw [if_pos ⟨st_last hq 0, rfl⟩, put_last hq]
  simp [sleepsV]
theorem ups_run {got : List Int} : ∀ {b a : List Int}, (∀ t ∈ b, 0 ≤ t ∧ t ≤ 63) → ((a ++ b).Pairwise fun x y => ¬ x = y) → runV ⟨sleepsV a, got, 0⟩ (upsV b) = ⟨sleepsV (a ++ b), got, 0⟩
  | [], a, _, _ => by simp [upsV, runV]
  | t :: b, a, hr, h => by
    have hi : ¬ t ∈ a := fun q => by
      rw [List.pairwise_append] at h
      exact h.2.2 t q t List.mem_cons_self rfl
    have e : upsV (t :: b) = [⟨1, t⟩, ⟨3, t⟩] ++ upsV b := by simp [upsV]
    rw [e, runV_append, up_step (hr t List.mem_cons_self) hi, ups_run (fun x hx => hr x (List.mem_cons_of_mem _ hx)) (by rw [List.append_assoc]; exact h), List.append_assoc]
    rfl
/-- The first k are woken. -/
def halfV (l : List Int) (k : Nat) : List WtT := (l.take k).map (fun t => (t, 2)) ++ (l.drop k).map fun t => (t, 1)
theorem wake_half : ∀ (l : List Int) (k : Nat), wakeV (halfV l k) = halfV l (k + 1)
  | [], k => by simp [halfV, wakeV]
  | t :: r, 0 => by simp [halfV, wakeV]
  | t :: r, k + 1 => by
    have ih := wake_half r k
    unfold halfV at *
    rw [List.take_succ_cons, List.drop_succ_cons, List.map_cons, List.cons_append, List.take_succ_cons, List.drop_succ_cons, List.map_cons, List.cons_append, wakeV, if_pos rfl, ih]
theorem gives_run (l got : List Int) : ∀ (n : Nat), n ≤ 400 → runV ⟨sleepsV l, got, 0⟩ (List.replicate n ⟨4, 0⟩) = ⟨halfV l n, got, n⟩
  | 0, _ => by simp [runV, halfV, sleepsV]
  | n + 1, hn => by
    have e : List.replicate (n + 1) (⟨4, 0⟩ : WvT) = List.replicate n ⟨4, 0⟩ ++ [⟨4, 0⟩] := List.replicate_succ'
    rw [e, runV_one, gives_run l got n (by omega)]
    have he : errV ⟨halfV l n, got, n⟩ ⟨4, 0⟩ = 0 := by
      unfold errV
      simp
      omega
    unfold stepV
    rw [if_pos he]
    show (⟨wakeV (halfV l n), got, n + 1⟩ : StV) = _
    rw [wake_half]
theorem slp_half (l got : List Int) (n k : Nat) : slpV ⟨halfV l k, got, n⟩ = l.drop k := by
  unfold slpV halfV
  simp only
  rw [List.filter_append, List.filter_eq_nil_iff.2 fun q hq => ?_, List.filter_eq_self.2 fun q hq => ?_, List.nil_append, List.map_map]
  · exact List.map_id _
  · obtain ⟨x, _, rfl⟩ := List.mem_map.1 hq
    simp
  · obtain ⟨x, _, rfl⟩ := List.mem_map.1 hq
    simp
theorem first_V {l : List Int} (hr : ∀ t ∈ l, 0 ≤ t ∧ t ≤ 63) (h : l.Pairwise fun x y => ¬ x = y) {n : Nat} (hn : n ≤ 400) : runV newV (upsV l ++ List.replicate n ⟨4, 0⟩) = ⟨halfV l n, [], n⟩ := by
  have h1 := ups_run (got := []) (b := l) (a := []) hr (by rw [List.nil_append]; exact h)
  rw [List.nil_append] at h1
  have h2 : runV newV (upsV l) = ⟨sleepsV l, [], 0⟩ := h1
  rw [runV_append, h2, gives_run l [] n hn]
/-- WaitAllUp. -/
theorem allup_V (s : StV) (t : Int) : errV s ⟨5, 0⟩ = 0 ∧ slpV (runV s [⟨5, 0⟩, ⟨3, t⟩]) = [] ∧ (runV s [⟨5, 0⟩, ⟨3, t⟩]).got = s.got ∧ (runV s [⟨5, 0⟩, ⟨3, t⟩]).things = s.things := by
  have e5 : errV s ⟨5, 0⟩ = 0 := by unfold errV; simp
  obtain ⟨L, hL⟩ : ∃ L, s.line.map (fun q => ((q.1, 2) : WtT)) = L := ⟨_, rfl⟩
  have s5 : stepV s ⟨5, 0⟩ = ⟨L, s.got, s.things⟩ := by
    unfold stepV
    rw [if_pos e5, ← hL]
    rfl
  have h2 : ∀ q ∈ L, q.2 = 2 := fun q hq => by
    rw [← hL] at hq
    obtain ⟨a, _, rfl⟩ := List.mem_map.1 hq
    rfl
  have hst : ¬ stV L t = some 0 := fun q => by
    unfold stV at q
    rw [Option.map_eq_some_iff] at q
    obtain ⟨a, ha, e⟩ := q
    have := h2 a (List.mem_of_find?_eq_some ha)
    omega
  have s3 : stepV ⟨L, s.got, s.things⟩ ⟨3, t⟩ = ⟨L, s.got, s.things⟩ := by
    unfold stepV
    split
    · show (⟨if stV L t = some 0 ∧ s.things = 0 then putV L t 1 else L, s.got, s.things⟩ : StV) = _
      rw [if_neg (fun q => hst q.1)]
    · rfl
  rw [runV, s5, runV, s3, runV]
  refine ⟨e5, ?_, rfl, rfl⟩
  unfold slpV
  rw [List.filter_eq_nil_iff.2 fun q hq => by have := h2 q hq; simp; omega]
  rfl
end Go.Proofs.Ytghonbiiichedaa
