/- Package uart, in plain terms: bytes that came in, bytes that go out. No program in sight. -/
namespace Go.Proofs.Ytalcfbdnnlapnaa

structure UaT where
  k : Int
  b : UInt8
structure StB where
  inn : List UInt8
  out : List UInt8
  lost : Nat
def mxB : Nat := 1099511627776
def newB : StB := ⟨[], [], 0⟩
def askB (s : StB) : Bool := decide (¬ s.inn = [])
structure GoodB (s : StB) : Prop where
  inn : s.inn.length ≤ 16
  out : s.out.length ≤ 16
  lost : s.lost ≤ mxB
def errB (s : StB) (o : UaT) : Int :=
  if o.k < 1 ∨ 4 < o.k then 5
  else if o.k = 1 then if 16 ≤ s.inn.length ∧ mxB ≤ s.lost then 4 else 0
  else if o.k = 2 then if s.inn = [] then 3 else 0
  else if o.k = 3 then if 16 ≤ s.out.length then 7 else 0
  else if s.out = [] then 3 else 0
def doB (s : StB) (o : UaT) : StB :=
  if o.k = 1 then ⟨if s.inn.length < 16 then s.inn ++ [o.b] else s.inn, s.out, if s.inn.length < 16 then s.lost else s.lost + 1⟩
  else if o.k = 2 then ⟨s.inn.tail, s.out, s.lost⟩
  else if o.k = 3 then ⟨s.inn, s.out ++ [o.b], s.lost⟩
  else ⟨s.inn, s.out.tail, s.lost⟩
/-- The byte that comes with it. -/
def byteB (s : StB) (o : UaT) : UInt8 := if o.k = 2 then s.inn.head?.getD 0 else if o.k = 4 then s.out.head?.getD 0 else 0
def stepB (s : StB) (o : UaT) : StB := if errB s o = 0 then doB s o else s
def readB (s : StB) (o : UaT) : List UInt8 := if errB s o = 0 ∧ o.k = 2 then [byteB s o] else []
def sentB (s : StB) (o : UaT) : List UInt8 := if errB s o = 0 ∧ o.k = 4 then [byteB s o] else []
def runB : StB → List UaT → StB
  | s, [] => s
  | s, o :: r => runB (stepB s o) r
def readsB : StB → List UaT → List UInt8
  | _, [] => []
  | s, o :: r => readB s o ++ readsB (stepB s o) r
def sentsB : StB → List UaT → List UInt8
  | _, [] => []
  | s, o :: r => sentB s o ++ sentsB (stepB s o) r
theorem good_newB : GoodB newB := ⟨by decide, by decide, by decide⟩
theorem runB_append : ∀ {a b : List UaT} {s : StB}, runB s (a ++ b) = runB (runB s a) b
  | [], _, _ => rfl
  | _ :: a, _, _ => runB_append (a := a)
theorem readsB_append : ∀ {a b : List UaT} {s : StB}, readsB s (a ++ b) = readsB s a ++ readsB (runB s a) b
  | [], _, _ => rfl
  | o :: a, b, s => by simp only [List.cons_append, readsB, runB]; rw [readsB_append, List.append_assoc]
theorem sentsB_append : ∀ {a b : List UaT} {s : StB}, sentsB s (a ++ b) = sentsB s a ++ sentsB (runB s a) b
  | [], _, _ => rfl
  | o :: a, b, s => by simp only [List.cons_append, sentsB, runB]; rw [sentsB_append, List.append_assoc]
theorem runB_next {ops : List UaT} {j : Nat} {o : UaT} (h : ops[j]? = some o) (s : StB) : runB s (ops.take (j + 1)) = stepB (runB s (ops.take j)) o := by
  have e : ops.take (j + 1) = ops.take j ++ [o] := by rw [List.take_add_one, h]; rfl
  rw [e, runB_append]
  rfl
theorem readsB_next {ops : List UaT} {j : Nat} {o : UaT} (h : ops[j]? = some o) (s : StB) : readsB s (ops.take (j + 1)) = readsB s (ops.take j) ++ readB (runB s (ops.take j)) o := by
  have e : ops.take (j + 1) = ops.take j ++ [o] := by rw [List.take_add_one, h]; rfl
  rw [e, readsB_append]
  simp [readsB]
theorem sentsB_next {ops : List UaT} {j : Nat} {o : UaT} (h : ops[j]? = some o) (s : StB) : sentsB s (ops.take (j + 1)) = sentsB s (ops.take j) ++ sentB (runB s (ops.take j)) o := by
  have e : ops.take (j + 1) = ops.take j ++ [o] := by rw [List.take_add_one, h]; rfl
  rw [e, sentsB_append]
  simp [sentsB]
theorem errB_1 {s : StB} {o : UaT} (h : errB s o = 0) (hk : o.k = 1) : s.inn.length < 16 ∨ s.lost < mxB := by
  unfold errB at h
  rw [if_neg (by omega), if_pos hk] at h
  by_cases h1 : 16 ≤ s.inn.length ∧ mxB ≤ s.lost
  · rw [if_pos h1] at h; cases h
  · omega
theorem errB_2 {s : StB} {o : UaT} (h : errB s o = 0) (hk : o.k = 2) : ¬ s.inn = [] := fun q => by
  unfold errB at h
  rw [if_neg (by omega), if_neg (by omega), if_pos hk, if_pos q] at h
  cases h
theorem errB_3 {s : StB} {o : UaT} (h : errB s o = 0) (hk : o.k = 3) : s.out.length < 16 := by
  unfold errB at h
  rw [if_neg (by omega), if_neg (by omega), if_neg (by omega), if_pos hk] at h
  by_cases h1 : 16 ≤ s.out.length
  · rw [if_pos h1] at h; cases h
  · omega
theorem errB_4 {s : StB} {o : UaT} (h : errB s o = 0) (hk : o.k = 4) : ¬ s.out = [] := fun q => by
  unfold errB at h
  rw [if_neg (by omega), if_neg (by omega), if_neg (by omega), if_neg (by omega), if_pos q] at h
  cases h
theorem errB_kinds {s : StB} {o : UaT} (h : errB s o = 0) : o.k = 1 ∨ o.k = 2 ∨ o.k = 3 ∨ o.k = 4 := by
  unfold errB at h
  by_cases h1 : o.k < 1 ∨ 4 < o.k
  · rw [if_pos h1] at h; cases h
  · omega
theorem good_stepB {s : StB} (h : GoodB s) (o : UaT) : GoodB (stepB s o) := by
  have h1 := h.inn
  have h2 := h.out
  have h3 := h.lost
  unfold stepB
  by_cases he : errB s o = 0
  · rw [if_pos he]
    unfold doB
    rcases errB_kinds he with e | e | e | e
    · have h4 := errB_1 he e
      rw [if_pos e]
      by_cases hr : s.inn.length < 16
      · rw [if_pos hr, if_pos hr]
        exact ⟨by simp only [List.length_append, List.length_cons, List.length_nil]; omega, h2, h3⟩
      · rw [if_neg hr, if_neg hr]
        exact ⟨h1, h2, by simp only; omega⟩
    · rw [if_neg (by omega), if_pos e]
      exact ⟨by simp only [List.length_tail]; omega, h2, h3⟩
    · have h4 := errB_3 he e
      rw [if_neg (by omega), if_neg (by omega), if_pos e]
      exact ⟨h1, by simp only [List.length_append, List.length_cons, List.length_nil]; omega, h3⟩
    · rw [if_neg (by omega), if_neg (by omega), if_neg (by omega)]
      exact ⟨h1, by simp only [List.length_tail]; omega, h3⟩
  · rw [if_neg he]
    exact h
theorem good_runB : ∀ {ops : List UaT} {s : StB}, GoodB s → GoodB (runB s ops)
  | [], _, h => h
  | o :: r, s, h => by rw [runB]; exact good_runB (good_stepB h o)
/-- UartStream: what the law gathers itself: so many wait, so many go, so many were lost; what came in, what was written. -/
structure SeB where
  waits : Nat
  goes : Nat
  lost : Nat
  inn : List UInt8
  out : List UInt8
def seeB (v : SeB) (o : UaT) : SeB :=
  if o.k = 1 then if v.waits = 16 then ⟨v.waits, v.goes, v.lost + 1, v.inn, v.out⟩ else ⟨v.waits + 1, v.goes, v.lost, v.inn ++ [o.b], v.out⟩
  else if o.k = 2 then ⟨v.waits - 1, v.goes, v.lost, v.inn, v.out⟩
  else if o.k = 3 then if v.goes < 16 then ⟨v.waits, v.goes + 1, v.lost, v.inn, v.out ++ [o.b]⟩ else v
  else if o.k = 4 then ⟨v.waits, v.goes - 1, v.lost, v.inn, v.out⟩
  else v
def seesB : SeB → List UaT → SeB
  | v, [] => v
  | v, o :: r => seesB (seeB v o) r
theorem seesB_append : ∀ {a b : List UaT} {v : SeB}, seesB v (a ++ b) = seesB (seesB v a) b
  | [], _, _ => rfl
  | _ :: a, _, _ => seesB_append (a := a)
theorem seesB_next {ops : List UaT} {j : Nat} {o : UaT} (h : ops[j]? = some o) (v : SeB) : seesB v (ops.take (j + 1)) = seeB (seesB v (ops.take j)) o := by
  have e : ops.take (j + 1) = ops.take j ++ [o] := by rw [List.take_add_one, h]; rfl
  rw [e, seesB_append]
  rfl
structure TieB (s : StB) (rd sn : List UInt8) (v : SeB) : Prop where
  w : v.waits = s.inn.length
  g : v.goes = s.out.length
  l : v.lost = s.lost
  i : rd ++ s.inn = v.inn
  o : sn ++ s.out = v.out
theorem tie_step {s : StB} {rd sn : List UInt8} {v : SeB} (hg : GoodB s) (h : TieB s rd sn v) (o : UaT) (hl : s.lost < mxB) : TieB (stepB s o) (rd ++ readB s o) (sn ++ sentB s o) (seeB v o) := by
  obtain ⟨hw, hgo, hlo, hi, ho⟩ := h
  have h1 := hg.inn
  have h2 := hg.out
  by_cases k1 : o.k = 1
  · have he : errB s o = 0 := by
      unfold errB
      rw [if_neg (by omega), if_pos k1, if_neg (by omega)]
    have er : readB s o = [] := by unfold readB; rw [if_neg (fun q => by omega)]
    have es : sentB s o = [] := by unfold sentB; rw [if_neg (fun q => by omega)]
    rw [er, es, List.append_nil, List.append_nil]
    unfold stepB seeB doB
    rw [if_pos he, if_pos k1, if_pos k1]
    by_cases hr : s.inn.length < 16
    · rw [if_pos hr, if_pos hr, if_neg (by omega)]
      exact ⟨by simp; omega, hgo, hlo, by simp only; rw [← List.append_assoc, hi], ho⟩
    · rw [if_neg hr, if_neg hr, if_pos (by omega)]
      exact ⟨hw, hgo, by simp only; omega, hi, ho⟩
  · by_cases k2 : o.k = 2
    · have es : sentB s o = [] := by unfold sentB; rw [if_neg (fun q => by omega)]
      rw [es, List.append_nil]
      unfold seeB
      rw [if_neg k1, if_pos k2]
      cases hs : s.inn with
      | nil =>
        have he : ¬ errB s o = 0 := fun q => errB_2 q k2 hs
        have er : readB s o = [] := by unfold readB; rw [if_neg (fun q => he q.1)]
        unfold stepB
        rw [er, List.append_nil, if_neg he]
        rw [hs] at hw
        exact ⟨by show v.waits - 1 = s.inn.length; rw [hw, hs]; rfl, hgo, hlo, hi, ho⟩
      | cons x r =>
        have he : errB s o = 0 := by
          unfold errB
          rw [if_neg (by omega), if_neg k1, if_pos k2, if_neg (by rw [hs]; simp)]
        have er : readB s o = [x] := by
          unfold readB byteB
          rw [if_pos ⟨he, k2⟩, if_pos k2, hs]
          rfl
        unfold stepB doB
        rw [er, if_pos he, if_neg k1, if_pos k2, hs]
        rw [hs] at hw hi
        exact ⟨by simp only [List.tail_cons]; rw [hw]; simp, hgo, hlo, by simp only [List.tail_cons]; rw [List.append_assoc]; exact hi, ho⟩
    · have er : readB s o = [] := by unfold readB; rw [if_neg (fun q => k2 q.2)]
      rw [er, List.append_nil]
      by_cases k3 : o.k = 3
      · have es : sentB s o = [] := by unfold sentB; rw [if_neg (fun q => by omega)]
        rw [es, List.append_nil]
        unfold seeB
        rw [if_neg k1, if_neg k2, if_pos k3]
        by_cases hr : s.out.length < 16
        · have he : errB s o = 0 := by
            unfold errB
            rw [if_neg (by omega), if_neg k1, if_neg k2, if_pos k3, if_neg (by omega)]
          unfold stepB doB
          rw [if_pos he, if_neg k1, if_neg k2, if_pos k3, if_pos (by omega)]
          exact ⟨hw, by simp; omega, hlo, hi, by simp only; rw [← List.append_assoc, ho]⟩
        · have he : ¬ errB s o = 0 := fun q => hr (errB_3 q k3)
          unfold stepB
          rw [if_neg he, if_neg (by omega)]
          exact ⟨hw, hgo, hlo, hi, ho⟩
      · unfold seeB
        rw [if_neg k1, if_neg k2, if_neg k3]
        by_cases k4 : o.k = 4
        · rw [if_pos k4]
          cases hs : s.out with
          | nil =>
            have he : ¬ errB s o = 0 := fun q => errB_4 q k4 hs
            have es : sentB s o = [] := by unfold sentB; rw [if_neg (fun q => he q.1)]
            unfold stepB
            rw [es, List.append_nil, if_neg he]
            rw [hs] at hgo
            exact ⟨hw, by show v.goes - 1 = s.out.length; rw [hgo, hs]; rfl, hlo, hi, ho⟩
          | cons x r =>
            have he : errB s o = 0 := by
              unfold errB
              rw [if_neg (by omega), if_neg k1, if_neg k2, if_neg k3, if_neg (by rw [hs]; simp)]
            have es : sentB s o = [x] := by
              unfold sentB byteB
              rw [if_pos ⟨he, k4⟩, if_neg k2, if_pos k4, hs]
              rfl
            unfold stepB doB
            rw [es, if_pos he, if_neg k1, if_neg k2, if_neg k3, hs]
            rw [hs] at hgo ho
            exact ⟨hw, by simp only [List.tail_cons]; rw [hgo]; simp, hlo, hi, by simp only [List.tail_cons]; rw [List.append_assoc]; exact ho⟩
        · rw [if_neg k4]
          have he : ¬ errB s o = 0 := fun q => by have := errB_kinds q; omega
          have es : sentB s o = [] := by unfold sentB; rw [if_neg (fun q => he q.1)]
          unfold stepB
          rw [es, List.append_nil, if_neg he]
          exact ⟨hw, hgo, hlo, hi, ho⟩
theorem lost_step (s : StB) (o : UaT) : (stepB s o).lost ≤ s.lost + 1 := by
  unfold stepB doB
  split
  · split
    · simp only
      split <;> omega
    · split
      · simp
      · split <;> simp
  · omega
theorem stream_B : ∀ {ops : List UaT} {s : StB} {rd sn : List UInt8} {v : SeB}, GoodB s → TieB s rd sn v → s.lost + ops.length ≤ mxB → TieB (runB s ops) (rd ++ readsB s ops) (sn ++ sentsB s ops) (seesB v ops)
  | [], s, rd, sn, v, _, h, _ => by
    simp only [runB, readsB, sentsB, seesB, List.append_nil]
    exact h
  | o :: r, s, rd, sn, v, hg, h, hl => by
    rw [List.length_cons] at hl
    have h1 := tie_step hg h o (by omega)
    have h2 := lost_step s o
    have h3 := stream_B (ops := r) (good_stepB hg o) h1 (by omega)
    simp only [runB, readsB, sentsB, seesB]
    rw [List.append_assoc, List.append_assoc] at h3
    exact h3
/-- UartAsks: read all. -/
theorem read_allB (b : UInt8) : ∀ (n : Nat) (s : StB), s.inn.length ≤ n → (runB s (List.replicate n ⟨2, b⟩)).inn = [] ∧ readsB s (List.replicate n ⟨2, b⟩) = s.inn ∧ (runB s (List.replicate n ⟨2, b⟩)).out = s.out
  | 0, s, h => by
    have := List.eq_nil_of_length_eq_zero (Nat.le_zero.1 h)
    exact ⟨this, by simp [readsB, this], rfl⟩
  | n + 1, s, h => by
    rw [List.replicate_succ, runB, readsB]
    cases hs : s.inn with
    | nil =>
      have he : ¬ errB s ⟨2, b⟩ = 0 := fun q => errB_2 q rfl hs
      have e1 : stepB s ⟨2, b⟩ = s := by unfold stepB; rw [if_neg he]
      have e2 : readB s ⟨2, b⟩ = [] := by unfold readB; rw [if_neg (fun q => he q.1)]
      obtain ⟨h1, h2, h3⟩ := read_allB b n s (by rw [hs]; simp)
      rw [e1, e2, h2, hs]
      exact ⟨h1, rfl, h3⟩
    | cons x r =>
      have he : errB s ⟨2, b⟩ = 0 := by unfold errB; simp [hs]
      have e1 : stepB s ⟨2, b⟩ = ⟨r, s.out, s.lost⟩ := by unfold stepB; rw [if_pos he]; simp [doB, hs]
      have e2 : readB s ⟨2, b⟩ = [x] := by unfold readB byteB; rw [if_pos ⟨he, rfl⟩, if_pos rfl, hs]; rfl
      obtain ⟨h1, h2, h3⟩ := read_allB b n ⟨r, s.out, s.lost⟩ (by rw [hs] at h; simp at h ⊢; omega)
      rw [e1, e2, h2]
      exact ⟨h1, rfl, h3⟩
end Go.Proofs.Ytalcfbdnnlapnaa
