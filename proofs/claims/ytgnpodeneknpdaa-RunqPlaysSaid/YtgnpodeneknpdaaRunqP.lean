/- Package runq, in plain terms: who is queued as one row of (Id, level), the graver ones first; who was taken. No program in sight. -/
namespace Go.Proofs.Ytgnpodeneknpdaa

/-- What is done to the queue. -/
structure RuT where
  k : Int
  i : Int
  l : Int
/-- An Id at a level. -/
abbrev EnT := Int × Int
structure StU where
  list : List EnT
  taken : List Int
def putU (p : EnT → Bool) (e : EnT) : List EnT → List EnT
  | [] => [e]
  | q :: r => if p q then q :: putU p e r else e :: q :: r
def addP (l : Int) (q : EnT) : Bool := decide (l ≤ q.2)
def headP (l : Int) (q : EnT) : Bool := decide (l < q.2)
def heldU (s : StU) (i : Int) : Bool := s.list.any fun q => decide (q.1 = i)
def errU (s : StU) (o : RuT) : Int :=
  if o.k < 1 ∨ 4 < o.k then 5
  else if (o.k = 1 ∨ o.k = 2) ∧ (o.l < 0 ∨ 31 < o.l) then 2
  else if o.k = 1 ∨ o.k = 2 then if heldU s o.i = true then 6 else 0
  else if o.k = 3 then if s.list = [] then 3 else 0
  else if heldU s o.i = true then 0 else 3
def takeU (s : StU) : StU := ⟨s.list.tail, s.taken ++ (s.list.head?.map (·.1)).toList⟩
def doU (s : StU) (o : RuT) : StU :=
  if o.k = 1 then ⟨putU (addP o.l) (o.i, o.l) s.list, s.taken⟩
  else if o.k = 2 then ⟨putU (headP o.l) (o.i, o.l) s.list, s.taken⟩
  else if o.k = 3 then takeU s
  else ⟨s.list.filter fun q => decide (¬ q.1 = o.i), s.taken⟩
def stepU (s : StU) (o : RuT) : StU := if errU s o = 0 then doU s o else s
def runU : StU → List RuT → StU
  | s, [] => s
  | s, o :: r => runU (stepU s o) r
def errsU : StU → List RuT → List Int
  | _, [] => []
  | s, o :: r => errU s o :: errsU (stepU s o) r
def newU : StU := ⟨[], []⟩
def leftU (s : StU) : List Int := s.list.map (·.1)
structure GoodU (s : StU) : Prop where
  srt : s.list.Pairwise fun a b => b.2 ≤ a.2
  nod : s.list.Pairwise fun a b => ¬ a.1 = b.1
  rng : ∀ q ∈ s.list, 0 ≤ q.2 ∧ q.2 ≤ 31
theorem good_newU : GoodU newU := ⟨List.Pairwise.nil, List.Pairwise.nil, fun x h => (by cases h)⟩
theorem runU_append : ∀ {a b : List RuT} {s : StU}, runU s (a ++ b) = runU (runU s a) b
  | [], _, _ => rfl
  | _ :: a, _, _ => runU_append (a := a)
theorem errsU_append : ∀ {a b : List RuT} {s : StU}, errsU s (a ++ b) = errsU s a ++ errsU (runU s a) b
  | [], _, _ => rfl
  | _ :: a, b, s => by simp only [List.cons_append, errsU, runU]; rw [errsU_append]
theorem errsU_len : ∀ {a : List RuT} {s : StU}, (errsU s a).length = a.length
  | [], _ => rfl
  | _ :: a, s => by simp [errsU, errsU_len]
theorem runU_next {ops : List RuT} {j : Nat} {o : RuT} (h : ops[j]? = some o) (s : StU) : runU s (ops.take (j + 1)) = stepU (runU s (ops.take j)) o := by
  have e : ops.take (j + 1) = ops.take j ++ [o] := by rw [List.take_add_one, h]; rfl
  rw [e, runU_append]
  rfl
theorem errsU_next {ops : List RuT} {j : Nat} {o : RuT} (h : ops[j]? = some o) (s : StU) : errsU s (ops.take (j + 1)) = errsU s (ops.take j) ++ [errU (runU s (ops.take j)) o] := by
  have e : ops.take (j + 1) = ops.take j ++ [o] := by rw [List.take_add_one, h]; rfl
  rw [e, errsU_append]
  rfl
theorem errsU_at {ops : List RuT} {j : Nat} {o : RuT} (h : ops[j]? = some o) (s : StU) : (errsU s ops)[j]? = some (errU (runU s (ops.take j)) o) := by
  have hj := (List.getElem?_eq_some_iff.1 h).1
  have e : ops = ops.take j ++ ops.drop j := (List.take_append_drop j ops).symm
  have hd : ops.drop j = o :: ops.drop (j + 1) := by
    rw [List.drop_eq_getElem_cons hj, (List.getElem?_eq_some_iff.1 h).2]
  have hl : (errsU s (ops.take j)).length = j := by rw [errsU_len, List.length_take]; omega
  have e2 : errsU s ops = errsU s (ops.take j) ++ errsU (runU s (ops.take j)) (o :: ops.drop (j + 1)) := by
    have := congrArg (errsU s) e
    rw [errsU_append, hd] at this
    exact this
  rw [e2, List.getElem?_append_right (by omega), hl, Nat.sub_self]
  rfl
theorem runU_one (s : StU) (ops : List RuT) (o : RuT) : runU s (ops ++ [o]) = stepU (runU s ops) o := by
  rw [runU_append]; rfl
theorem errsU_one (s : StU) (ops : List RuT) (o : RuT) : errsU s (ops ++ [o]) = errsU s ops ++ [errU (runU s ops) o] := by
  rw [errsU_append]; rfl
theorem heldU_mem {s : StU} {i : Int} : heldU s i = true ↔ i ∈ leftU s := by
  unfold heldU leftU
  rw [List.any_eq_true, List.mem_map]
  constructor
  · rintro ⟨q, h, e⟩
    exact ⟨q, h, by simpa using e⟩
  · rintro ⟨q, h, e⟩
    exact ⟨q, h, by simpa using e⟩
theorem heldU_no {s : StU} {i : Int} (h : heldU s i = false) : ∀ q ∈ s.list, ¬ q.1 = i := fun q hq e => by
  have : heldU s i = true := heldU_mem.2 (List.mem_map.2 ⟨q, hq, e⟩)
  rw [h] at this
  cases this
theorem mem_putU {p : EnT → Bool} {e x : EnT} : ∀ {l : List EnT}, x ∈ putU p e l ↔ x = e ∨ x ∈ l
  | [] => by simp [putU]
  | q :: r => by
    unfold putU
    split
    · rw [List.mem_cons, mem_putU, List.mem_cons]
      constructor
      · rintro (h | h | h) <;> simp [h]
      · rintro (h | h | h) <;> simp [h]
    · simp
theorem len_putU {p : EnT → Bool} {e : EnT} : ∀ {l : List EnT}, (putU p e l).length = l.length + 1
  | [] => rfl
  | q :: r => by
    unfold putU
    split
    · simp [len_putU]
    · simp
/-- Where it goes: behind as many. -/
def atU (p : EnT → Bool) : List EnT → Nat
  | [] => 0
  | q :: r => if p q then atU p r + 1 else 0
theorem at_leU {p : EnT → Bool} : ∀ {l : List EnT}, atU p l ≤ l.length
  | [] => Nat.le_refl _
  | q :: r => by
    have := at_leU (p := p) (l := r)
    unfold atU
    split
    · rw [List.length_cons]; omega
    · omega
theorem put_at {p : EnT → Bool} {e : EnT} : ∀ {l : List EnT}, putU p e l = l.take (atU p l) ++ e :: l.drop (atU p l)
  | [] => rfl
  | q :: r => by
    unfold putU atU
    split
    · rw [put_at (l := r), List.take_succ_cons, List.drop_succ_cons, List.cons_append]
    · rfl
theorem at_before {p : EnT → Bool} : ∀ {l : List EnT} {j : Nat} {q : EnT}, j < atU p l → l[j]? = some q → p q = true
  | [], j, q, h, _ => by simp [atU] at h
  | x :: r, j, q, h, hq => by
    unfold atU at h
    by_cases hp : p x = true
    · rw [if_pos hp] at h
      cases j with
      | zero => simp at hq; rw [← hq]; exact hp
      | succ j => exact at_before (l := r) (j := j) (by omega) (by simpa using hq)
    · rw [if_neg hp] at h; omega
theorem at_stop {p : EnT → Bool} : ∀ {l : List EnT} {q : EnT}, l[atU p l]? = some q → p q = false
  | [], q, h => by simp at h
  | x :: r, q, h => by
    unfold atU at h
    by_cases hp : p x = true
    · rw [if_pos hp] at h
      exact at_stop (l := r) (by simpa using h)
    · rw [if_neg hp] at h
      simp at h
      rw [← h]
      simpa using hp
theorem at_is {p : EnT → Bool} : ∀ {l : List EnT} {k : Nat}, (∀ j q, j < k → l[j]? = some q → p q = true) → k ≤ l.length → (∀ q, l[k]? = some q → p q = false) → atU p l = k
  | [], k, _, hk, _ => by simp at hk; rw [hk]; rfl
  | x :: r, 0, _, _, h => by
    have := h x rfl
    unfold atU
    rw [if_neg (by rw [this]; simp)]
  | x :: r, k + 1, h1, hk, h2 => by
    have hp := h1 0 x (by omega) rfl
    unfold atU
    rw [if_pos hp, at_is (l := r) (k := k) (fun j q hj hq => h1 (j + 1) q (by omega) (by simpa using hq)) (by simp at hk; omega) (fun q hq => h2 q (by simpa using hq))]
theorem srt_put {p : EnT → Bool} {e : EnT} (hp : ∀ q : EnT, p q = true → e.2 ≤ q.2) (hn : ∀ q : EnT, p q = false → q.2 ≤ e.2) : ∀ {l : List EnT}, (l.Pairwise fun a b => b.2 ≤ a.2) → (putU p e l).Pairwise fun a b => b.2 ≤ a.2
  | [], _ => by simp [putU]
  | q :: r, h => by
    unfold putU
    rw [List.pairwise_cons] at h
    by_cases hq : p q = true
    · rw [if_pos hq, List.pairwise_cons]
      refine ⟨fun x hx => ?_, srt_put hp hn h.2⟩
      rcases mem_putU.1 hx with rfl | hx
      · exact hp q hq
      · exact h.1 x hx
    · rw [if_neg hq, List.pairwise_cons, List.pairwise_cons]
      have h1 := hn q (by simpa using hq)
      refine ⟨fun x hx => ?_, h⟩
      rcases List.mem_cons.1 hx with rfl | hx
      · exact h1
      · have := h.1 x hx
        omega
theorem nod_put {p : EnT → Bool} {e : EnT} : ∀ {l : List EnT}, (l.Pairwise fun a b => ¬ a.1 = b.1) → (∀ q ∈ l, ¬ q.1 = e.1) → (putU p e l).Pairwise fun a b => ¬ a.1 = b.1
  | [], _, _ => by simp [putU]
  | q :: r, h, hn => by
    unfold putU
    rw [List.pairwise_cons] at h
    split
    · rw [List.pairwise_cons]
      refine ⟨fun x hx => ?_, nod_put h.2 fun x hx => hn x (List.mem_cons_of_mem _ hx)⟩
      rcases mem_putU.1 hx with rfl | hx
      · exact hn q List.mem_cons_self
      · exact h.1 x hx
    · rw [List.pairwise_cons, List.pairwise_cons]
      exact ⟨fun x hx e => hn x hx e.symm, h⟩
theorem good_put {s : StU} (h : GoodU s) {p : EnT → Bool} {e : EnT} (hp : ∀ q : EnT, p q = true → e.2 ≤ q.2) (hn : ∀ q : EnT, p q = false → q.2 ≤ e.2) (h0 : heldU s e.1 = false) (hl : 0 ≤ e.2 ∧ e.2 ≤ 31) : GoodU ⟨putU p e s.list, s.taken⟩ :=
  ⟨srt_put hp hn h.srt, nod_put h.nod (heldU_no h0), fun q hq => by
    rcases mem_putU.1 hq with rfl | hq
    · exact hl
    · exact h.rng q hq⟩
theorem addP_t {l : Int} {q : EnT} (h : addP l q = true) : l ≤ q.2 := by simpa [addP] using h
theorem addP_f {l : Int} {q : EnT} (h : addP l q = false) : q.2 ≤ l := by
  have : ¬ l ≤ q.2 := by simpa [addP] using h
  omega
theorem headP_t {l : Int} {q : EnT} (h : headP l q = true) : l ≤ q.2 := by
  have : l < q.2 := by simpa [headP] using h
  omega
theorem headP_f {l : Int} {q : EnT} (h : headP l q = false) : q.2 ≤ l := by
  have : ¬ l < q.2 := by simpa [headP] using h
  omega
theorem good_takeU {s : StU} (h : GoodU s) : GoodU (takeU s) :=
  ⟨h.srt.sublist (List.tail_sublist _), h.nod.sublist (List.tail_sublist _), fun q hq => h.rng q (List.mem_of_mem_tail hq)⟩
theorem errU_in {s : StU} {o : RuT} (h : errU s o = 0) (hk : o.k = 1 ∨ o.k = 2) : (0 ≤ o.l ∧ o.l ≤ 31) ∧ heldU s o.i = false := by
  unfold errU at h
  rw [if_neg (by omega)] at h
  by_cases h1 : o.l < 0 ∨ 31 < o.l
  · rw [if_pos ⟨hk, h1⟩] at h; cases h
  · rw [if_neg (fun q => h1 q.2), if_pos hk] at h
    refine ⟨by omega, ?_⟩
    cases hq : heldU s o.i with
    | true => rw [hq] at h; cases h
    | false => rfl
theorem errU_take {s : StU} {o : RuT} (h : errU s o = 0) (hk : o.k = 3) : ¬ s.list = [] := fun q => by
  unfold errU at h
  rw [if_neg (by omega), if_neg (by omega), if_neg (by omega), if_pos hk, if_pos q] at h
  cases h
theorem errU_drop {s : StU} {o : RuT} (h : errU s o = 0) (hk : o.k = 4) : heldU s o.i = true := by
  unfold errU at h
  rw [if_neg (by omega), if_neg (by omega), if_neg (by omega), if_neg (by omega)] at h
  cases hq : heldU s o.i with
  | true => rfl
  | false => rw [hq] at h; cases h
theorem errU_kinds {s : StU} {o : RuT} (h : errU s o = 0) : o.k = 1 ∨ o.k = 2 ∨ o.k = 3 ∨ o.k = 4 := by
  unfold errU at h
  by_cases h1 : o.k < 1 ∨ 4 < o.k
  · rw [if_pos h1] at h; cases h
  · omega
theorem good_stepU {s : StU} (h : GoodU s) (o : RuT) : GoodU (stepU s o) := by
  unfold stepU
  by_cases he : errU s o = 0
  · rw [if_pos he]
    unfold doU
    rcases errU_kinds he with e | e | e | e
    · have := errU_in he (Or.inl e)
      rw [if_pos e]
      exact good_put h (fun q => addP_t) (fun q => addP_f) this.2 this.1
    · have := errU_in he (Or.inr e)
      rw [if_neg (by omega), if_pos e]
      exact good_put h (fun q => headP_t) (fun q => headP_f) this.2 this.1
    · rw [if_neg (by omega), if_neg (by omega), if_pos e]
      exact good_takeU h
    · rw [if_neg (by omega), if_neg (by omega), if_neg (by omega)]
      exact ⟨h.srt.filter _, h.nod.filter _, fun q hq => h.rng q (List.mem_filter.1 hq).1⟩
  · rw [if_neg he]
    exact h
theorem good_runU : ∀ {ops : List RuT} {s : StU}, GoodU s → GoodU (runU s ops)
  | [], _, h => h
  | o :: r, s, h => by rw [runU]; exact good_runU (good_stepU h o)
/-- One level's row; all of them, the graver ones first, are the whole. -/
def lvlU (l : List EnT) (j : Int) : List Int := (l.filter fun q => decide (q.2 = j)).map (·.1)
theorem lvl_put_other {p : EnT → Bool} {e : EnT} {j : Int} (hj : ¬ e.2 = j) : ∀ {l : List EnT}, lvlU (putU p e l) j = lvlU l j
  | [] => by simp [putU, lvlU, hj]
  | q :: r => by
    have ih := lvl_put_other (p := p) hj (l := r)
    unfold lvlU at *
    unfold putU
    by_cases hp : p q = true
    · rw [if_pos hp]
      by_cases e2 : q.2 = j
      · rw [List.filter_cons_of_pos (by simpa using e2), List.filter_cons_of_pos (by simpa using e2), List.map_cons, List.map_cons, ih]
      · rw [List.filter_cons_of_neg (by simpa using e2), List.filter_cons_of_neg (by simpa using e2), ih]
    · rw [if_neg hp, List.filter_cons_of_neg (by simpa using hj)]
theorem lvl_below {l : List EnT} {j : Int} (h : ∀ q ∈ l, ¬ q.2 = j) : lvlU l j = [] := by
  unfold lvlU
  rw [List.filter_eq_nil_iff.2 (fun q hq => by simpa using h q hq)]
  rfl
/-- RunAdd: at the end of its level. -/
theorem lvl_add {i l : Int} : ∀ {r : List EnT}, (r.Pairwise fun a b => b.2 ≤ a.2) → lvlU (putU (addP l) (i, l) r) l = lvlU r l ++ [i]
  | [], _ => by simp [putU, lvlU]
  | q :: r, h => by
    rw [List.pairwise_cons] at h
    have ih := lvl_add (i := i) (l := l) h.2
    unfold putU
    by_cases hp : addP l q = true
    · rw [if_pos hp]
      unfold lvlU at *
      by_cases e : q.2 = l
      · rw [List.filter_cons_of_pos (by simpa using e), List.filter_cons_of_pos (by simpa using e), List.map_cons, List.map_cons, ih, List.cons_append]
      · rw [List.filter_cons_of_neg (by simpa using e), List.filter_cons_of_neg (by simpa using e), ih]
    · have h1 : ¬ l ≤ q.2 := by simpa [addP] using hp
      rw [if_neg hp]
      have h2 : lvlU (q :: r) l = [] := lvl_below fun x hx => by
        rcases List.mem_cons.1 hx with rfl | hx
        · omega
        · have := h.1 x hx; omega
      rw [h2]
      unfold lvlU at *
      rw [List.filter_cons_of_pos (by simp), List.map_cons, h2]
      rfl
/-- RunHead: at its front. -/
theorem lvl_head {i l : Int} : ∀ {r : List EnT}, (r.Pairwise fun a b => b.2 ≤ a.2) → lvlU (putU (headP l) (i, l) r) l = i :: lvlU r l
  | [], _ => by simp [putU, lvlU]
  | q :: r, h => by
    rw [List.pairwise_cons] at h
    have ih := lvl_head (i := i) (l := l) h.2
    unfold putU
    by_cases hp : headP l q = true
    · have h1 : l < q.2 := by simpa [headP] using hp
      rw [if_pos hp]
      unfold lvlU at *
      rw [List.filter_cons_of_neg (by simp; omega), List.filter_cons_of_neg (by simp; omega), ih]
    · rw [if_neg hp]
      unfold lvlU
      rw [List.filter_cons_of_pos (by simp), List.map_cons]
/-- RunTake: of its level the first. -/
theorem lvl_take {q : EnT} {r : List EnT} (j : Int) : lvlU (q :: r) j = if q.2 = j then q.1 :: lvlU r j else lvlU r j := by
  unfold lvlU
  split
  · rename_i e
    rw [List.filter_cons_of_pos (by simpa using e), List.map_cons]
  · rename_i e
    rw [List.filter_cons_of_neg (by simpa using e)]
/-- The first one's level is the gravest that is not empty. -/
theorem lvl_top {q : EnT} {r : List EnT} (h : (q :: r).Pairwise fun a b => b.2 ≤ a.2) {j : Int} (hj : q.2 < j) : lvlU (q :: r) j = [] := lvl_below fun x hx => by
  rw [List.pairwise_cons] at h
  rcases List.mem_cons.1 hx with rfl | hx
  · omega
  · have := h.1 x hx; omega
/-- RunDrop. -/
theorem lvl_drop {l : List EnT} {i j : Int} : lvlU (l.filter fun q => decide (¬ q.1 = i)) j = (lvlU l j).filter fun x => decide (¬ x = i) := by
  unfold lvlU
  rw [List.filter_map, List.filter_filter, List.filter_filter]
  congr 1
  refine List.filter_congr fun q _ => ?_
  simp only [Function.comp]
  rw [Bool.and_comm]
/-- From the n-th level down. -/
def downU (l : List EnT) : Nat → List Int
  | 0 => []
  | n + 1 => lvlU l (n : Int) ++ downU l n
theorem down_nil : ∀ n, downU [] n = []
  | 0 => rfl
  | n + 1 => by rw [downU, down_nil n]; rfl
theorem down_cons {q : EnT} {r : List EnT} (h : (q :: r).Pairwise fun a b => b.2 ≤ a.2) : ∀ n : Nat, downU (q :: r) n = if 0 ≤ q.2 ∧ q.2 < (n : Int) then q.1 :: downU r n else downU r n
  | 0 => by
    rw [if_neg (by omega)]
    rfl
  | n + 1 => by
    rw [downU, down_cons h n, downU, lvl_take]
    by_cases h1 : q.2 = (n : Int)
    · rw [if_pos h1, if_neg (by omega), if_pos (by omega)]
      rfl
    · rw [if_neg h1]
      by_cases h2 : 0 ≤ q.2 ∧ q.2 < (n : Int)
      · rw [if_pos h2, if_pos (by omega)]
        have h3 : lvlU r (n : Int) = [] := by
          have := lvl_top h (j := (n : Int)) h2.2
          rw [lvl_take, if_neg h1] at this
          exact this
        rw [h3]
        rfl
      · rw [if_neg h2, if_neg (by omega)]
theorem down_all : ∀ {l : List EnT}, (l.Pairwise fun a b => b.2 ≤ a.2) → (∀ q ∈ l, 0 ≤ q.2 ∧ q.2 ≤ 31) → downU l 32 = l.map (·.1)
  | [], _, _ => down_nil _
  | q :: r, h, hr => by
    have h0 := hr q List.mem_cons_self
    rw [down_cons h, if_pos (by omega), List.map_cons]
    rw [List.pairwise_cons] at h
    rw [down_all h.2 fun x hx => hr x (List.mem_cons_of_mem _ hx)]
/-- RunqSorted: all are taken, as they stand. -/
theorem take_step {s : StU} {q : EnT} {r : List EnT} (h : s.list = q :: r) (i l : Int) : stepU s ⟨3, i, l⟩ = ⟨r, s.taken ++ [q.1]⟩ := by
  have he : errU s ⟨3, i, l⟩ = 0 := by unfold errU; simp [h]
  unfold stepU
  rw [if_pos he]
  simp [doU, takeU, h]
theorem take_all (i l : Int) : ∀ (n : Nat) (s : StU), s.list.length = n → runU s (List.replicate n ⟨3, i, l⟩) = ⟨[], s.taken ++ leftU s⟩
  | 0, s, h => by
    have := List.eq_nil_of_length_eq_zero h
    rw [List.replicate_zero, runU]
    unfold leftU
    rw [this, List.map_nil, List.append_nil]
    cases s
    simp only at this
    rw [this]
  | n + 1, s, h => by
    obtain ⟨q, r, e⟩ : ∃ q r, s.list = q :: r := by
      cases hs : s.list with
      | nil => rw [hs] at h; cases h
      | cons q r => exact ⟨q, r, rfl⟩
    rw [List.replicate_succ, runU, take_step e, take_all i l n _ (by rw [e] at h; simpa using h)]
    unfold leftU
    rw [e]
    simp
/-- RunqFirst. -/
theorem put_front {e : EnT} {p : EnT → Bool} {l : List EnT} (h : ∀ q ∈ l, p q = false) : putU p e l = e :: l := by
  cases l with
  | nil => rfl
  | cons q r => unfold putU; rw [if_neg (by rw [h q List.mem_cons_self]; simp)]
theorem put_back {e : EnT} {p : EnT → Bool} : ∀ {l : List EnT}, (∀ q ∈ l, p q = true) → putU p e l = l ++ [e]
  | [], _ => rfl
  | q :: r, h => by
    unfold putU
    rw [if_pos (h q List.mem_cons_self), put_back fun x hx => h x (List.mem_cons_of_mem _ hx)]
    rfl
theorem first_head {s : StU} (hg : GoodU s) {i : Int} (h : heldU s i = false) : stepU s ⟨2, i, 31⟩ = ⟨(i, 31) :: s.list, s.taken⟩ := by
  have he : errU s ⟨2, i, 31⟩ = 0 := by unfold errU; simp [h]
  unfold stepU
  rw [if_pos he]
  have hf : ∀ q ∈ s.list, headP 31 q = false := fun q hq => by
    have := hg.rng q hq
    simp [headP]
    omega
  show (if (2 : Int) = 1 then _ else if (2 : Int) = 2 then (⟨putU (headP 31) (i, 31) s.list, s.taken⟩ : StU) else _) = _
  rw [if_neg (by decide), if_pos rfl, put_front hf]
theorem first_tail {s : StU} (hg : GoodU s) {i : Int} (h : heldU s i = false) : stepU s ⟨1, i, 0⟩ = ⟨s.list ++ [(i, 0)], s.taken⟩ := by
  have he : errU s ⟨1, i, 0⟩ = 0 := by unfold errU; simp [h]
  unfold stepU
  rw [if_pos he]
  simp only [doU]
  rw [if_pos trivial, put_back fun q hq => ?_]
  have := hg.rng q hq
  simp [addP]
  omega
/-- RunqDrop. -/
theorem drop_step (s : StU) (i l : Int) : (errU s ⟨4, i, l⟩ = 0 ↔ i ∈ leftU s) ∧ (stepU s ⟨4, i, l⟩).taken = s.taken ∧ leftU (stepU s ⟨4, i, l⟩) = (leftU s).filter fun x => decide (¬ x = i) := by
  have h4 : errU s ⟨4, i, l⟩ = if heldU s i = true then 0 else 3 := by unfold errU; simp
  have h0 : errU s ⟨4, i, l⟩ = 0 ↔ heldU s i = true := by
    rw [h4]
    cases heldU s i <;> simp
  have hf : (s.list.filter fun q => decide (¬ q.1 = i)).map (·.1) = (leftU s).filter fun x => decide (¬ x = i) := by
    unfold leftU
    rw [List.filter_map]
    rfl
  refine ⟨h0.trans heldU_mem, ?_, ?_⟩
  · unfold stepU
    split
    · simp [doU]
    · rfl
  · unfold stepU
    by_cases he : errU s ⟨4, i, l⟩ = 0
    · rw [if_pos he]
      simp only [doU]
      rw [if_neg (by decide), if_neg (by decide), if_neg (by decide)]
      exact hf
    · rw [if_neg he]
      have hn : ¬ i ∈ leftU s := fun q => he (h0.2 (heldU_mem.2 q))
      exact (List.filter_eq_self.2 fun x hx => by
        have : ¬ x = i := fun e => hn (e ▸ hx)
        simpa using this).symm
/-- RunqCount: who came, less who was dropped. -/
def cntU (s : StU) : List RuT → Int
  | [] => 0
  | o :: r => (if errU s o = 0 then if o.k = 1 ∨ o.k = 2 then 1 else if o.k = 4 then -1 else 0 else 0) + cntU (stepU s o) r
theorem cntU_append : ∀ {a b : List RuT} {s : StU}, cntU s (a ++ b) = cntU s a + cntU (runU s a) b
  | [], _, _ => by simp [cntU, runU]
  | o :: a, b, s => by simp only [List.cons_append, cntU, runU]; rw [cntU_append]; omega
theorem cntU_next {ops : List RuT} {j : Nat} {o : RuT} (h : ops[j]? = some o) (s : StU) : cntU s (ops.take (j + 1)) = cntU s (ops.take j) + (if errU (runU s (ops.take j)) o = 0 then if o.k = 1 ∨ o.k = 2 then 1 else if o.k = 4 then -1 else 0 else 0) := by
  have e : ops.take (j + 1) = ops.take j ++ [o] := by rw [List.take_add_one, h]; rfl
  rw [e, cntU_append]
  simp [cntU]
def sizU (s : StU) : Int := (s.taken.length : Int) + (s.list.length : Int)
theorem len_dropU {l : List EnT} (h : l.Pairwise fun a b => ¬ a.1 = b.1) {i : Int} (hi : i ∈ l.map (·.1)) : (l.filter fun q => decide (¬ q.1 = i)).length + 1 = l.length := by
  induction l with
  | nil => cases hi
  | cons a r ih =>
    rw [List.pairwise_cons] at h
    by_cases e : a.1 = i
    · rw [List.filter_cons_of_neg (by simpa using e)]
      have : r.filter (fun x => decide (¬ x.1 = i)) = r := List.filter_eq_self.2 fun b hb => by
        have := h.1 b hb
        rw [e] at this
        simpa using fun q : b.1 = i => this q.symm
      rw [this]
      rfl
    · rw [List.filter_cons_of_pos (by simpa using e), List.length_cons, List.length_cons]
      rw [List.map_cons] at hi
      rcases List.mem_cons.1 hi with q | q
      · exact absurd q.symm e
      · rw [ih h.2 q]
theorem siz_step {s : StU} (hg : GoodU s) (o : RuT) : sizU (stepU s o) = sizU s + (if errU s o = 0 then if o.k = 1 ∨ o.k = 2 then 1 else if o.k = 4 then -1 else 0 else 0) := by
  unfold stepU
  by_cases he : errU s o = 0
  · rw [if_pos he, if_pos he]
    unfold doU sizU
    rcases errU_kinds he with e | e | e | e
    · rw [if_pos e, if_pos (Or.inl e), len_putU]
      simp only
      omega
    · rw [if_neg (by omega), if_pos e, if_pos (Or.inr e), len_putU]
      simp only
      omega
    · rw [if_neg (by omega), if_neg (by omega), if_pos e, if_neg (by omega), if_neg (by omega)]
      obtain ⟨q, r, h⟩ : ∃ q r, s.list = q :: r := by
        cases hs : s.list with
        | nil => exact absurd hs (errU_take he e)
        | cons q r => exact ⟨q, r, rfl⟩
      simp only [takeU, h, List.length_append, List.length_cons, List.tail_cons, List.head?_cons, Option.map_some, Option.toList_some, List.length_nil]
      omega
    · rw [if_neg (by omega), if_neg (by omega), if_neg (by omega), if_neg (by omega), if_pos e]
      have := len_dropU hg.nod (heldU_mem.1 (errU_drop he e))
      simp only
      omega
  · rw [if_neg he, if_neg he]
    omega
theorem siz_run : ∀ {ops : List RuT} {s : StU}, GoodU s → sizU (runU s ops) = sizU s + cntU s ops
  | [], s, _ => by simp [runU, cntU]
  | o :: r, s, hg => by
    rw [runU, siz_run (good_stepU hg o), siz_step hg o, cntU]
    omega
theorem siz_le : ∀ {ops : List RuT} {s : StU}, GoodU s → sizU (runU s ops) ≤ sizU s + (ops.length : Int)
  | [], s, _ => by simp [runU]
  | o :: r, s, hg => by
    have h1 := siz_le (ops := r) (good_stepU hg o)
    have h2 := siz_step hg o
    rw [runU, List.length_cons]
    have h3 : (if errU s o = 0 then if o.k = 1 ∨ o.k = 2 then 1 else if o.k = 4 then -1 else 0 else 0 : Int) ≤ 1 := by
      split
      · split
        · omega
        · split <;> omega
      · omega
    rw [h2] at h1
    omega
/-- RunqTurns. -/
def rowU (l : Int) (ids : List Int) : List EnT := ids.map fun i => (i, l)
def addsU (l : Int) (ids : List Int) : List RuT := ids.map fun i => ⟨1, i, l⟩
def turnU (l : Int) (ids : List Int) : List RuT := ids.flatMap fun i => [⟨3, 0, 0⟩, ⟨1, i, l⟩]
theorem left_row (l : Int) (ids tk : List Int) : leftU ⟨rowU l ids, tk⟩ = ids := by
  unfold leftU rowU
  rw [List.map_map]
  exact List.map_id _
theorem add_row {l i : Int} (hl : 0 ≤ l ∧ l ≤ 31) {ids tk : List Int} (hi : ¬ i ∈ ids) : stepU ⟨rowU l ids, tk⟩ ⟨1, i, l⟩ = ⟨rowU l (ids ++ [i]), tk⟩ := by
  have hh : heldU ⟨rowU l ids, tk⟩ i = false := by
    cases hq : heldU ⟨rowU l ids, tk⟩ i with
    | false => rfl
    | true =>
      have := heldU_mem.1 hq
      rw [left_row] at this
      exact absurd this hi
  have he : errU ⟨rowU l ids, tk⟩ ⟨1, i, l⟩ = 0 := by unfold errU; simp [hh]; omega
  unfold stepU
  rw [if_pos he]
  simp only [doU]
  rw [if_pos trivial, put_back fun q hq => ?_]
  · simp [rowU]
  · obtain ⟨x, _, rfl⟩ := List.mem_map.1 hq
    simp [addP]
theorem adds_row {l : Int} (hl : 0 ≤ l ∧ l ≤ 31) {tk : List Int} : ∀ {b a : List Int}, ((a ++ b).Pairwise fun x y => ¬ x = y) → runU ⟨rowU l a, tk⟩ (addsU l b) = ⟨rowU l (a ++ b), tk⟩
  | [], a, _ => by simp [addsU, runU]
  | i :: b, a, h => by
    have hi : ¬ i ∈ a := fun q => by
      rw [List.pairwise_append] at h
      exact h.2.2 i q i List.mem_cons_self rfl
    have ih := adds_row (l := l) hl (tk := tk) (b := b) (a := a ++ [i]) (by rw [List.append_assoc]; exact h)
    rw [addsU, List.map_cons, runU, add_row hl hi]
    rw [List.append_assoc] at ih
    exact ih
theorem turn_row {l : Int} (hl : 0 ≤ l ∧ l ≤ 31) : ∀ {b a tk : List Int}, ((b ++ a).Pairwise fun x y => ¬ x = y) → runU ⟨rowU l (b ++ a), tk⟩ (turnU l b) = ⟨rowU l (a ++ b), tk ++ b⟩
  | [], a, tk, _ => by simp [turnU, runU]
  | i :: b, a, tk, h => by
    have h' := h
    rw [List.cons_append, List.pairwise_cons] at h'
    have hi : ¬ i ∈ b ++ a := fun q => h'.1 i q rfl
    have h2 : (b ++ (a ++ [i])).Pairwise fun x y => ¬ x = y := by
      rw [← List.append_assoc, List.pairwise_append]
      exact ⟨h'.2, List.pairwise_singleton _ _, fun x hx y hy e => by rw [List.mem_singleton] at hy; subst hy; subst e; exact hi hx⟩
    have ih := turn_row hl (b := b) (a := a ++ [i]) (tk := tk ++ [i]) h2
    have e1 : turnU l (i :: b) = ⟨3, 0, 0⟩ :: ⟨1, i, l⟩ :: turnU l b := by simp [turnU]
    have e3 : stepU ⟨rowU l (i :: b ++ a), tk⟩ ⟨3, 0, 0⟩ = ⟨rowU l (b ++ a), tk ++ [i]⟩ := take_step (s := ⟨rowU l (i :: b ++ a), tk⟩) (q := (i, l)) (r := rowU l (b ++ a)) rfl 0 0
    rw [e1, runU, e3, runU, add_row hl hi, List.append_assoc, ih]
    simp
/-- So many rounds. -/
def turnsU (l : Int) (ids : List Int) : Nat → List RuT
  | 0 => []
  | n + 1 => turnsU l ids n ++ turnU l ids
def wantU (ids : List Int) : Nat → List Int
  | 0 => []
  | n + 1 => wantU ids n ++ ids
theorem turns_row {l : Int} (hl : 0 ≤ l ∧ l ≤ 31) {ids : List Int} (h : ids.Pairwise fun x y => ¬ x = y) : ∀ n, runU ⟨rowU l ids, []⟩ (turnsU l ids n) = ⟨rowU l ids, wantU ids n⟩
  | 0 => rfl
  | n + 1 => by
    rw [turnsU, runU_append, turns_row hl h n, wantU]
    have := turn_row hl (b := ids) (a := []) (tk := wantU ids n) (by rw [List.append_nil]; exact h)
    rw [List.append_nil, List.nil_append] at this
    exact this
theorem turns_all {l : Int} (hl : 0 ≤ l ∧ l ≤ 31) {ids : List Int} (h : ids.Pairwise fun x y => ¬ x = y) (n : Nat) : (runU newU (addsU l ids ++ turnsU l ids n)).taken = wantU ids n ∧ leftU (runU newU (addsU l ids ++ turnsU l ids n)) = ids := by
  have h1 := adds_row hl (tk := []) (b := ids) (a := []) (by rw [List.nil_append]; exact h)
  rw [List.nil_append] at h1
  have h2 : runU newU (addsU l ids) = ⟨rowU l ids, []⟩ := h1
  rw [runU_append, h2, turns_row hl h n]
  exact ⟨rfl, left_row _ _ _⟩
end Go.Proofs.Ytgnpodeneknpdaa
