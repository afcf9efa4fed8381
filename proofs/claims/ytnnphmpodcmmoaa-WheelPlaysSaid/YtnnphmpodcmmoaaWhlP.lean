/- Package wheel, in plain terms: the timers that are set as one row, sorted by ticks and then by Ids; what one slot holds of it. No program in sight. -/
namespace Go.Proofs.Ytnnphmpodcmmoaa

/-- What is done about timers. -/
structure TmT where
  k : Int
  i : Int
  n : Int
abbrev FiT := Nat × Int
def lexT (a b : FiT) : Prop := a.1 < b.1 ∨ (a.1 = b.1 ∧ a.2 < b.2)
instance (a b : FiT) : Decidable (lexT a b) := by unfold lexT; infer_instance
def insT (p : FiT) : List FiT → List FiT
  | [] => [p]
  | q :: r => if lexT q p then q :: insT p r else p :: q :: r
structure StT where
  now : Nat
  set : List FiT
  fired : List FiT
def setQ (s : List FiT) (i : Int) : Bool := s.any fun p => decide (p.2 = i)
def errT (s : StT) (o : TmT) : Int :=
  if o.k = 1 then if ¬ (1 ≤ o.n ∧ o.n ≤ 511) then 2 else if setQ s.set o.i = true then 6 else 0
  else if o.k = 2 then if setQ s.set o.i = true then 0 else 3
  else if o.k = 3 then if ¬ (0 ≤ o.n ∧ o.n ≤ 2000) then 2 else 0
  else 5
def cutL (i : Int) (l : List FiT) : List FiT := l.filter fun p => decide (¬ p.2 = i)
def dueL (t : Nat) (l : List FiT) : List FiT := l.filter fun p => decide (p.1 ≤ t)
def laterL (t : Nat) (l : List FiT) : List FiT := l.filter fun p => decide (¬ p.1 ≤ t)
def addT (s : StT) (i : Int) (n : Nat) : StT := ⟨s.now, insT (s.now + n, i) s.set, s.fired⟩
def cutT (s : StT) (i : Int) : StT := ⟨s.now, cutL i s.set, s.fired⟩
def tickT (s : StT) (n : Nat) : StT := ⟨s.now + n, laterL (s.now + n) s.set, s.fired ++ dueL (s.now + n) s.set⟩
def doT (s : StT) (o : TmT) : StT := if o.k = 1 then addT s o.i o.n.toNat else if o.k = 2 then cutT s o.i else tickT s o.n.toNat
def stepT (s : StT) (o : TmT) : StT := if errT s o = 0 then doT s o else s
def runT : StT → List TmT → StT
  | s, [] => s
  | s, o :: r => runT (stepT s o) r
def errsT : StT → List TmT → List Int
  | _, [] => []
  | s, o :: r => errT s o :: errsT (stepT s o) r
def newT : StT := ⟨0, [], []⟩
structure GoodT (s : StT) : Prop where
  srt : s.set.Pairwise lexT
  nod : s.set.Pairwise fun a b => ¬ a.2 = b.2
  near : ∀ p ∈ s.set, s.now < p.1 ∧ p.1 ≤ s.now + 511
theorem good_new : GoodT newT := ⟨List.Pairwise.nil, List.Pairwise.nil, fun p h => by cases h⟩
theorem lex_trans {a b c : FiT} (h : lexT a b) (h' : lexT b c) : lexT a c := by unfold lexT at *; omega
theorem lex_irr (a : FiT) : ¬ lexT a a := by unfold lexT; omega
theorem lex_asy {a b : FiT} (h : lexT a b) : ¬ lexT b a := by unfold lexT at *; omega
theorem lex_tot {a b : FiT} (h : ¬ lexT a b) (h' : ¬ a = b) : lexT b a := by
  unfold lexT at *
  have : ¬ (a.1 = b.1 ∧ a.2 = b.2) := fun e => h' (Prod.ext e.1 e.2)
  omega
/-- Two sorted rows of the same members are one. -/
theorem srt_ext {α : Type} {R : α → α → Prop} (irr : ∀ a, ¬ R a a) (asy : ∀ a b, R a b → ¬ R b a) : ∀ {l m : List α}, l.Pairwise R → m.Pairwise R → (∀ x, x ∈ l ↔ x ∈ m) → l = m
  | [], [], _, _, _ => rfl
  | [], b :: m, _, _, h => by have := (h b).2 List.mem_cons_self; cases this
  | a :: l, [], _, _, h => by have := (h a).1 List.mem_cons_self; cases this
  | a :: l, b :: m, h1, h2, h => by
    rw [List.pairwise_cons] at h1 h2
    have e : a = b := by
      rcases List.mem_cons.1 ((h a).1 List.mem_cons_self) with e | e
      · exact e
      · rcases List.mem_cons.1 ((h b).2 List.mem_cons_self) with e' | e'
        · exact e'.symm
        · exact absurd (h1.1 b e') (asy b a (h2.1 a e))
    subst e
    congr 1
    refine srt_ext irr asy h1.2 h2.2 fun x => ?_
    constructor
    · intro hx
      rcases List.mem_cons.1 ((h x).1 (List.mem_cons_of_mem _ hx)) with e | e
      · exact absurd (h1.1 x hx) (by rw [e]; exact irr a)
      · exact e
    · intro hx
      rcases List.mem_cons.1 ((h x).2 (List.mem_cons_of_mem _ hx)) with e | e
      · exact absurd (h2.1 x hx) (by rw [e]; exact irr a)
      · exact e
theorem lex_ext {l m : List FiT} (h1 : l.Pairwise lexT) (h2 : m.Pairwise lexT) (h : ∀ x, x ∈ l ↔ x ∈ m) : l = m := srt_ext lex_irr (fun _ _ h => lex_asy h) h1 h2 h
theorem int_ext {l m : List Int} (h1 : l.Pairwise (· < ·)) (h2 : m.Pairwise (· < ·)) (h : ∀ x, x ∈ l ↔ x ∈ m) : l = m := srt_ext (fun a => by omega) (fun a b h => by omega) h1 h2 h
theorem mem_ins {p x : FiT} : ∀ {l : List FiT}, x ∈ insT p l ↔ x = p ∨ x ∈ l
  | [] => by simp [insT]
  | q :: r => by
    unfold insT
    split
    · rw [List.mem_cons, mem_ins, List.mem_cons]
      constructor
      · rintro (h | h | h) <;> simp [h]
      · rintro (h | h | h) <;> simp [h]
    · simp
theorem len_ins {p : FiT} : ∀ {l : List FiT}, (insT p l).length = l.length + 1
  | [] => rfl
  | q :: r => by
    unfold insT
    split
    · simp [len_ins]
    · simp
theorem srt_ins {p : FiT} : ∀ {l : List FiT}, l.Pairwise lexT → (∀ x ∈ l, ¬ x = p) → (insT p l).Pairwise lexT
  | [], _, _ => by simp [insT]
  | q :: r, h, hn => by
    unfold insT
    rw [List.pairwise_cons] at h
    split
    · rename_i hq
      rw [List.pairwise_cons]
      refine ⟨fun x hx => ?_, srt_ins h.2 fun x hx => hn x (List.mem_cons_of_mem _ hx)⟩
      rcases mem_ins.1 hx with e | e
      · rw [e]; exact hq
      · exact h.1 x e
    · rename_i hq
      have hpq := lex_tot hq (hn q List.mem_cons_self)
      rw [List.pairwise_cons, List.pairwise_cons]
      refine ⟨fun x hx => ?_, h⟩
      rcases List.mem_cons.1 hx with e | e
      · rw [e]; exact hpq
      · exact lex_trans hpq (h.1 x e)
theorem setQ_mem {l : List FiT} {i : Int} : setQ l i = true ↔ ∃ t, (t, i) ∈ l := by
  unfold setQ
  rw [List.any_eq_true]
  constructor
  · rintro ⟨⟨t, j⟩, h, e⟩
    simp at e
    subst e
    exact ⟨t, h⟩
  · rintro ⟨t, h⟩
    exact ⟨_, h, by simp⟩
theorem setQ_no {l : List FiT} {i : Int} (h : setQ l i = false) : ∀ p ∈ l, ¬ p.2 = i := fun p hp e => by
  have : setQ l i = true := setQ_mem.2 ⟨p.1, by rw [← e]; exact hp⟩
  rw [h] at this
  cases this
theorem nod_ins {p : FiT} : ∀ {l : List FiT}, (l.Pairwise fun a b => ¬ a.2 = b.2) → (∀ x ∈ l, ¬ x.2 = p.2) → (insT p l).Pairwise fun a b => ¬ a.2 = b.2
  | [], _, _ => by simp [insT]
  | q :: r, h, hn => by
    unfold insT
    split
    · rw [List.pairwise_cons] at h ⊢
      refine ⟨fun x hx => ?_, nod_ins h.2 fun x hx => hn x (List.mem_cons_of_mem _ hx)⟩
      rcases mem_ins.1 hx with e | e
      · rw [e]; exact hn q List.mem_cons_self
      · exact h.1 x e
    · rw [List.pairwise_cons]
      exact ⟨fun x hx e => hn x hx e.symm, h⟩
theorem nod_one {l : List FiT} (h : l.Pairwise fun a b => ¬ a.2 = b.2) {p q : FiT} (hp : p ∈ l) (hq : q ∈ l) (e : p.2 = q.2) : p = q := by
  induction l with
  | nil => cases hp
  | cons a r ih =>
    rw [List.pairwise_cons] at h
    rcases List.mem_cons.1 hp with e1 | e1
    · rcases List.mem_cons.1 hq with e2 | e2
      · rw [e1, e2]
      · exact absurd (by rw [← e1]; exact e) (h.1 q e2)
    · rcases List.mem_cons.1 hq with e2 | e2
      · exact absurd (by rw [← e2]; exact e.symm) (h.1 p e1)
      · exact ih h.2 e1 e2
theorem good_add {s : StT} (h : GoodT s) {i : Int} {n : Nat} (h1 : 1 ≤ n) (h2 : n ≤ 511) (hq : setQ s.set i = false) : GoodT (addT s i n) := by
  refine ⟨srt_ins h.srt fun x hx e => setQ_no hq x hx (by rw [e]), nod_ins h.nod (setQ_no hq), fun p hp => ?_⟩
  rcases mem_ins.1 hp with e | e
  · rw [e]; simp only [addT]; omega
  · exact h.near p e
theorem good_cut {s : StT} (h : GoodT s) (i : Int) : GoodT (cutT s i) :=
  ⟨h.srt.filter _, h.nod.filter _, fun p hp => h.near p ((List.mem_filter.1 hp).1)⟩
theorem good_tick {s : StT} (h : GoodT s) (n : Nat) : GoodT (tickT s n) :=
  ⟨h.srt.filter _, h.nod.filter _, fun p hp => by
    have h1 := h.near p ((List.mem_filter.1 hp).1)
    have h2 := (List.mem_filter.1 hp).2
    simp only [decide_eq_true_eq] at h2
    simp only [tickT]
    omega⟩
theorem err_add {s : StT} {o : TmT} (h : errT s o = 0) (hk : o.k = 1) : (1 ≤ o.n ∧ o.n ≤ 511) ∧ setQ s.set o.i = false := by
  unfold errT at h
  rw [if_pos hk] at h
  by_cases h1 : 1 ≤ o.n ∧ o.n ≤ 511
  · rw [if_neg (fun q => q h1)] at h
    cases hq : setQ s.set o.i with
    | true => rw [if_pos hq] at h; cases h
    | false => exact ⟨h1, rfl⟩
  · rw [if_pos h1] at h; cases h
theorem err_cut {s : StT} {o : TmT} (h : errT s o = 0) (hk : o.k = 2) : setQ s.set o.i = true := by
  unfold errT at h
  rw [if_neg (by omega), if_pos hk] at h
  cases hq : setQ s.set o.i with
  | true => rfl
  | false => rw [hq] at h; cases h
theorem err_tick {s : StT} {o : TmT} (h : errT s o = 0) (h1 : ¬ o.k = 1) (h2 : ¬ o.k = 2) : o.k = 3 ∧ 0 ≤ o.n ∧ o.n ≤ 2000 := by
  unfold errT at h
  rw [if_neg h1, if_neg h2] at h
  by_cases h3 : o.k = 3
  · rw [if_pos h3] at h
    by_cases h4 : 0 ≤ o.n ∧ o.n ≤ 2000
    · exact ⟨h3, h4⟩
    · rw [if_pos h4] at h; cases h
  · rw [if_neg h3] at h; cases h
theorem good_do {s : StT} (h : GoodT s) {o : TmT} (he : errT s o = 0) : GoodT (doT s o) := by
  unfold doT
  by_cases h1 : o.k = 1
  · rw [if_pos h1]
    have := err_add he h1
    exact good_add h (by omega) (by omega) this.2
  · rw [if_neg h1]
    split
    · exact good_cut h _
    · exact good_tick h _
theorem good_step {s : StT} (h : GoodT s) (o : TmT) : GoodT (stepT s o) := by
  unfold stepT
  split
  · rename_i he; exact good_do h he
  · exact h
theorem good_run : ∀ {ops : List TmT} {s : StT}, GoodT s → GoodT (runT s ops)
  | [], _, h => h
  | o :: r, s, h => by rw [runT]; exact good_run (good_step h o)
theorem run_append : ∀ {a b : List TmT} {s : StT}, runT s (a ++ b) = runT (runT s a) b
  | [], _, _ => rfl
  | _ :: a, _, _ => run_append (a := a)
theorem errs_append : ∀ {a b : List TmT} {s : StT}, errsT s (a ++ b) = errsT s a ++ errsT (runT s a) b
  | [], _, _ => rfl
  | _ :: a, b, s => by simp only [List.cons_append, errsT, runT]; rw [errs_append]
theorem errs_len : ∀ {a : List TmT} {s : StT}, (errsT s a).length = a.length
  | [], _ => rfl
  | _ :: a, s => by simp [errsT, errs_len]
theorem run_next {ops : List TmT} {j : Nat} {o : TmT} (h : ops[j]? = some o) (s : StT) : runT s (ops.take (j + 1)) = stepT (runT s (ops.take j)) o := by
  have e : ops.take (j + 1) = ops.take j ++ [o] := by rw [List.take_add_one, h]; rfl
  rw [e, run_append]
  rfl
theorem errs_next {ops : List TmT} {j : Nat} {o : TmT} (h : ops[j]? = some o) (s : StT) : errsT s (ops.take (j + 1)) = errsT s (ops.take j) ++ [errT (runT s (ops.take j)) o] := by
  have e : ops.take (j + 1) = ops.take j ++ [o] := by rw [List.take_add_one, h]; rfl
  rw [e, errs_append]
  rfl
theorem errs_at {ops : List TmT} {j : Nat} {o : TmT} (h : ops[j]? = some o) (s : StT) : (errsT s ops)[j]? = some (errT (runT s (ops.take j)) o) := by
  have hj := (List.getElem?_eq_some_iff.1 h).1
  have e : ops = ops.take j ++ ops.drop j := (List.take_append_drop j ops).symm
  have hd : ops.drop j = o :: ops.drop (j + 1) := by
    have h1 := List.drop_eq_getElem_cons hj
    rw [h1, (List.getElem?_eq_some_iff.1 h).2]
  have hl : (errsT s (ops.take j)).length = j := by rw [errs_len, List.length_take]; omega
  have e2 : errsT s ops = errsT s (ops.take j) ++ errsT (runT s (ops.take j)) (o :: ops.drop (j + 1)) := by
    have := congrArg (errsT s) e
    rw [errs_append, hd] at this
    exact this
  rw [e2, List.getElem?_append_right (by omega), hl, Nat.sub_self]
  rfl
theorem len_due {l : List FiT} (t : Nat) : (dueL t l).length + (laterL t l).length = l.length := by
  induction l with
  | nil => rfl
  | cons a r ih =>
    unfold dueL laterL at *
    by_cases h : a.1 ≤ t
    · rw [List.filter_cons_of_pos (by simpa using h), List.filter_cons_of_neg (by simpa using h), List.length_cons, List.length_cons]; omega
    · rw [List.filter_cons_of_neg (by simpa using h), List.filter_cons_of_pos (by simpa using h), List.length_cons, List.length_cons]; omega
theorem len_cut {l : List FiT} (hn : l.Pairwise fun a b => ¬ a.2 = b.2) {i : Int} (hq : setQ l i = true) : (cutL i l).length + 1 = l.length := by
  induction l with
  | nil => cases hq
  | cons a r ih =>
    rw [List.pairwise_cons] at hn
    unfold cutL at *
    by_cases h : a.2 = i
    · rw [List.filter_cons_of_neg (by simpa using h)]
      have : r.filter (fun p => decide (¬ p.2 = i)) = r := List.filter_eq_self.2 fun b hb => by
        have := hn.1 b hb
        rw [h] at this
        simpa using fun e : b.2 = i => this e.symm
      rw [this]
      rfl
    · rw [List.filter_cons_of_pos (by simpa using h), List.length_cons, List.length_cons, ih hn.2]
      unfold setQ at *
      rw [List.any_cons, decide_eq_false h, Bool.false_or] at hq
      exact hq
theorem tick_zero {s : StT} (h : GoodT s) : tickT s 0 = s := by
  have h1 : laterL (s.now + 0) s.set = s.set := List.filter_eq_self.2 fun p hp => by have := h.near p hp; simp; omega
  have h2 : dueL (s.now + 0) s.set = [] := List.filter_eq_nil_iff.2 fun p hp => by have := h.near p hp; simp; omega
  unfold tickT
  rw [h1, h2, List.append_nil, Nat.add_zero]
theorem due_split {l : List FiT} (h : l.Pairwise lexT) (a b : Nat) (hab : a ≤ b) : dueL a l ++ dueL b (laterL a l) = dueL b l := by
  refine lex_ext ?_ (h.filter _) fun x => ?_
  · rw [List.pairwise_append]
    refine ⟨h.filter _, (h.filter _).filter _, fun x hx y hy => ?_⟩
    have h1 := (List.mem_filter.1 hx).2
    have h2 := (List.mem_filter.1 ((List.mem_filter.1 hy).1)).2
    simp only [decide_eq_true_eq] at h1 h2
    exact Or.inl (by omega)
  · unfold dueL laterL
    simp only [List.mem_append, List.mem_filter, decide_eq_true_eq]
    constructor
    · rintro (⟨h1, h2⟩ | ⟨⟨h1, h2⟩, h3⟩)
      · exact ⟨h1, by omega⟩
      · exact ⟨h1, h3⟩
    · rintro ⟨h1, h2⟩
      by_cases h3 : x.1 ≤ a
      · exact Or.inl ⟨h1, h3⟩
      · exact Or.inr ⟨⟨h1, h3⟩, h2⟩
theorem later_later {l : List FiT} (a b : Nat) (hab : a ≤ b) : laterL b (laterL a l) = laterL b l := by
  unfold laterL
  rw [List.filter_filter]
  congr 1
  funext p
  rw [Bool.eq_iff_iff]
  simp only [Bool.and_eq_true, decide_eq_true_eq]
  omega
/-- So many ticks at once are one behind the other. -/
theorem tick_tick {s : StT} (h : GoodT s) (a b : Nat) : tickT (tickT s a) b = tickT s (a + b) := by
  unfold tickT
  simp only
  rw [Nat.add_assoc, later_later _ _ (by omega), List.append_assoc, due_split h.srt _ _ (by omega)]
/-- What a slot holds. -/
def slotT (set : List FiT) (j : Nat) : List Int := (set.filter fun p => decide (p.1 % 511 = j)).map (·.2)
theorem mem_slot {set : List FiT} {j : Nat} {i : Int} : i ∈ slotT set j ↔ ∃ t, (t, i) ∈ set ∧ t % 511 = j := by
  unfold slotT
  rw [List.mem_map]
  constructor
  · rintro ⟨⟨t, i'⟩, h, rfl⟩
    rw [List.mem_filter] at h
    exact ⟨t, h.1, by simpa using h.2⟩
  · rintro ⟨t, h1, h2⟩
    exact ⟨(t, i), List.mem_filter.2 ⟨h1, by simpa using h2⟩, rfl⟩
theorem same_tick {s : StT} (h : GoodT s) {p q : FiT} (hp : p ∈ s.set) (hq : q ∈ s.set) (e : p.1 % 511 = q.1 % 511) : p.1 = q.1 := by
  have h1 := h.near p hp
  have h2 := h.near q hq
  omega
theorem slot_srt {s : StT} (h : GoodT s) (j : Nat) : (slotT s.set j).Pairwise (· < ·) := by
  unfold slotT
  rw [List.pairwise_map]
  refine List.Pairwise.imp_of_mem ?_ (h.srt.filter _)
  intro a b ha hb hab
  obtain ⟨ha1, ha2⟩ := List.mem_filter.1 ha
  obtain ⟨hb1, hb2⟩ := List.mem_filter.1 hb
  simp only [decide_eq_true_eq] at ha2 hb2
  have e := same_tick h ha1 hb1 (by omega)
  unfold lexT at hab
  omega
theorem srt_cut : ∀ {l : List Int} (i : Int), l.Pairwise (· < ·) → l.take (l.countP (· < i)) = l.filter (· < i) ∧ l.drop (l.countP (· < i)) = l.filter fun x => decide (¬ x < i)
  | [], _, _ => by simp
  | a :: r, i, h => by
    rw [List.pairwise_cons] at h
    obtain ⟨h1, h2⟩ := srt_cut i h.2
    by_cases ha : a < i
    · rw [List.countP_cons_of_pos (by simpa using ha), List.filter_cons_of_pos (by simpa using ha), List.filter_cons_of_neg (by simpa using ha), List.take_succ_cons, List.drop_succ_cons, h1, h2]
      exact ⟨rfl, rfl⟩
    · have hz : r.countP (· < i) = 0 := List.countP_eq_zero.2 fun x hx => by have := h.1 x hx; simp; omega
      have hf : r.filter (· < i) = [] := List.filter_eq_nil_iff.2 fun x hx => by have := h.1 x hx; simp; omega
      have hg : r.filter (fun x => decide (¬ x < i)) = r := List.filter_eq_self.2 fun x hx => by have := h.1 x hx; simp; omega
      rw [List.countP_cons_of_neg (by simpa using ha), List.filter_cons_of_neg (by simpa using ha), List.filter_cons_of_pos (by simpa using ha), hz, hf, hg]
      exact ⟨rfl, rfl⟩
/-- What add makes of the slots. -/
theorem slot_add {s : StT} (h : GoodT s) {i : Int} {n : Nat} (h1 : 1 ≤ n) (h2 : n ≤ 511) (hq : setQ s.set i = false) (j : Nat) :
    slotT (addT s i n).set j = if j = (s.now + n) % 511 then (slotT s.set j).take ((slotT s.set j).countP (· < i)) ++ [i] ++ (slotT s.set j).drop ((slotT s.set j).countP (· < i)) else slotT s.set j := by
  have hg := good_add h h1 h2 hq
  by_cases e : j = (s.now + n) % 511
  · rw [if_pos e]
    obtain ⟨c1, c2⟩ := srt_cut i (slot_srt h j)
    rw [c1, c2]
    have hni : ∀ x ∈ slotT s.set j, ¬ x = i := fun x hx e' => by
      obtain ⟨t, ht, _⟩ := mem_slot.1 hx
      exact setQ_no hq _ ht e'
    refine int_ext (slot_srt hg j) ?_ fun x => ?_
    · rw [List.append_assoc, List.pairwise_append]
      refine ⟨(slot_srt h j).filter _, ?_, fun x hx y hy => ?_⟩
      · rw [List.singleton_append, List.pairwise_cons]
        refine ⟨fun y hy => ?_, (slot_srt h j).filter _⟩
        obtain ⟨hy1, hy2⟩ := List.mem_filter.1 hy
        have := hni y hy1
        simp only [decide_eq_true_eq] at hy2
        omega
      · have hx2 := (List.mem_filter.1 hx).2
        simp only [decide_eq_true_eq] at hx2
        rcases List.mem_cons.1 hy with e' | e'
        · omega
        · have hy2 := (List.mem_filter.1 e').2
          simp only [decide_eq_true_eq] at hy2
          omega
    · rw [mem_slot, List.mem_append, List.mem_append, List.mem_filter, List.mem_filter, List.mem_singleton]
      simp only [decide_eq_true_eq]
      constructor
      · rintro ⟨t, ht, hm⟩
        rcases mem_ins.1 ht with e' | e'
        · cases e'; exact Or.inl (Or.inr rfl)
        · have := mem_slot.2 ⟨t, e', hm⟩
          by_cases hx : x < i
          · exact Or.inl (Or.inl ⟨this, hx⟩)
          · exact Or.inr ⟨this, hx⟩
      · rintro ((⟨hx, _⟩ | rfl) | ⟨hx, _⟩)
        · obtain ⟨t, ht, hm⟩ := mem_slot.1 hx
          exact ⟨t, mem_ins.2 (Or.inr ht), hm⟩
        · exact ⟨_, mem_ins.2 (Or.inl rfl), e.symm⟩
        · obtain ⟨t, ht, hm⟩ := mem_slot.1 hx
          exact ⟨t, mem_ins.2 (Or.inr ht), hm⟩
  · rw [if_neg e]
    refine int_ext (slot_srt hg j) (slot_srt h j) fun x => ?_
    rw [mem_slot, mem_slot]
    constructor
    · rintro ⟨t, ht, hm⟩
      rcases mem_ins.1 ht with e' | e'
      · cases e'; exact absurd hm.symm e
      · exact ⟨t, e', hm⟩
    · rintro ⟨t, ht, hm⟩
      exact ⟨t, mem_ins.2 (Or.inr ht), hm⟩
theorem count_at {l : List Int} {i : Int} (h : l.Pairwise (· < ·)) (hi : i ∈ l) : l.countP (· < i) < l.length ∧ l.take (l.countP (· < i)) ++ l.drop (l.countP (· < i) + 1) = l.filter fun x => decide (¬ x = i) := by
  induction l with
  | nil => cases hi
  | cons a r ih =>
    rw [List.pairwise_cons] at h
    by_cases e : a = i
    · subst e
      have hz : r.countP (· < a) = 0 := List.countP_eq_zero.2 fun x hx => by have := h.1 x hx; simp; omega
      have hg : r.filter (fun x => decide (¬ x = a)) = r := List.filter_eq_self.2 fun x hx => by have := h.1 x hx; simp; omega
      rw [List.countP_cons_of_neg (by simp), hz, List.filter_cons_of_neg (by simp), hg]
      exact ⟨by simp, rfl⟩
    · have hi' : i ∈ r := by
        rcases List.mem_cons.1 hi with e' | e'
        · exact absurd e'.symm e
        · exact e'
      have ha := h.1 i hi'
      obtain ⟨h1, h2⟩ := ih h.2 hi'
      rw [List.countP_cons_of_pos (by simpa using ha), List.filter_cons_of_pos (by simpa using e), List.take_succ_cons, List.drop_succ_cons, List.cons_append, h2]
      exact ⟨by simp; omega, rfl⟩
/-- What cancel makes of the slots. -/
theorem slot_cut {s : StT} (h : GoodT s) {i : Int} {t : Nat} (ht : (t, i) ∈ s.set) (j : Nat) :
    slotT (cutT s i).set j = if j = t % 511 then (slotT s.set j).take ((slotT s.set j).countP (· < i)) ++ (slotT s.set j).drop ((slotT s.set j).countP (· < i) + 1) else slotT s.set j := by
  have hg := good_cut h i
  by_cases e : j = t % 511
  · rw [if_pos e, (count_at (slot_srt h j) (mem_slot.2 ⟨t, ht, e.symm⟩)).2]
    refine int_ext (slot_srt hg j) ((slot_srt h j).filter _) fun x => ?_
    rw [mem_slot, List.mem_filter, mem_slot]
    simp only [decide_eq_true_eq]
    constructor
    · rintro ⟨t', ht', hm⟩
      obtain ⟨h1, h2⟩ := List.mem_filter.1 ht'
      exact ⟨⟨t', h1, hm⟩, by simpa using h2⟩
    · rintro ⟨⟨t', ht', hm⟩, hx⟩
      exact ⟨t', List.mem_filter.2 ⟨ht', by simpa using hx⟩, hm⟩
  · rw [if_neg e]
    refine int_ext (slot_srt hg j) (slot_srt h j) fun x => ?_
    rw [mem_slot, mem_slot]
    constructor
    · rintro ⟨t', ht', hm⟩
      exact ⟨t', (List.mem_filter.1 ht').1, hm⟩
    · rintro ⟨t', ht', hm⟩
      refine ⟨t', List.mem_filter.2 ⟨ht', ?_⟩, hm⟩
      simp only [decide_eq_true_eq]
      intro hx
      have := nod_one h.nod ht' ht hx
      cases this
      exact e hm.symm
/-- What one tick makes of the slots, and what it fires. -/
theorem slot_tick {s : StT} (h : GoodT s) (j : Nat) : slotT (tickT s 1).set j = if j = (s.now + 1) % 511 then [] else slotT s.set j := by
  have hg := good_tick h 1
  refine int_ext (slot_srt hg j) ?_ fun x => ?_
  · split
    · exact List.Pairwise.nil
    · exact slot_srt h j
  · rw [mem_slot]
    by_cases e : j = (s.now + 1) % 511
    · rw [if_pos e]
      constructor
      · rintro ⟨t, ht, hm⟩
        obtain ⟨h1, h2⟩ := List.mem_filter.1 ht
        have := h.near _ h1
        simp only [decide_eq_true_eq] at h2 this
        omega
      · intro hx; cases hx
    · rw [if_neg e, mem_slot]
      constructor
      · rintro ⟨t, ht, hm⟩
        exact ⟨t, (List.mem_filter.1 ht).1, hm⟩
      · rintro ⟨t, ht, hm⟩
        refine ⟨t, List.mem_filter.2 ⟨ht, ?_⟩, hm⟩
        have := h.near _ ht
        simp only [decide_eq_true_eq] at this ⊢
        intro hx
        exact e (by rw [← hm]; congr 1; omega)
theorem due_one {s : StT} (h : GoodT s) : dueL (s.now + 1) s.set = (slotT s.set ((s.now + 1) % 511)).map fun i => (s.now + 1, i) := by
  unfold slotT dueL
  rw [List.map_map]
  have e : s.set.filter (fun p => decide (p.1 ≤ s.now + 1)) = s.set.filter (fun p => decide (p.1 % 511 = (s.now + 1) % 511)) := List.filter_congr fun p hp => by
    have := h.near p hp
    rw [decide_eq_decide]
    constructor
    · intro h1
      congr 1
      omega
    · intro h1
      omega
  rw [e]
  conv => lhs; rw [← List.map_id (s.set.filter _)]
  refine List.map_congr_left fun p hp => ?_
  obtain ⟨h1, h2⟩ := List.mem_filter.1 hp
  simp only [decide_eq_true_eq] at h2
  have := h.near p h1
  exact Prod.ext (by simp only [id, Function.comp]; omega) rfl
/-- The timers without those of the first k Ids. -/
def outL (ids : List Int) (l : List FiT) : List FiT := l.filter fun p => decide (¬ p.2 ∈ ids)
theorem out_zero (l : List FiT) : outL [] l = l := List.filter_eq_self.2 fun p _ => by simp
theorem out_next {ids : List Int} {k : Nat} {i : Int} (h : ids[k]? = some i) (l : List FiT) : cutL i (outL (ids.take k) l) = outL (ids.take (k + 1)) l := by
  have e : ids.take (k + 1) = ids.take k ++ [i] := by rw [List.take_add_one, h]; rfl
  unfold cutL outL
  rw [List.filter_filter, e]
  congr 1
  funext p
  rw [Bool.eq_iff_iff]
  simp only [Bool.and_eq_true, decide_eq_true_eq, List.mem_append, List.mem_singleton, not_or]
  exact ⟨fun h => ⟨h.2, h.1⟩, fun h => ⟨h.2, h.1⟩⟩
theorem out_due {l : List FiT} (hn : l.Pairwise fun a b => ¬ a.2 = b.2) (t : Nat) (ids : List Int) (hi : ∀ i, i ∈ ids ↔ ∃ p ∈ dueL t l, p.2 = i) : outL ids l = laterL t l := by
  unfold outL laterL
  refine List.filter_congr fun p hp => ?_
  rw [decide_eq_decide]
  constructor
  · intro h1 h2
    exact h1 ((hi _).2 ⟨p, List.mem_filter.2 ⟨hp, by simpa using h2⟩, rfl⟩)
  · intro h1 h2
    obtain ⟨q, hq, e⟩ := (hi _).1 h2
    obtain ⟨q1, q2⟩ := List.mem_filter.1 hq
    have := nod_one hn q1 hp e
    subst this
    exact h1 (by simpa using q2)
theorem nod_mono {l : List FiT} (h : l.Pairwise fun a b => ¬ a.2 = b.2) (p : FiT → Bool) : (l.filter p).Pairwise fun a b => ¬ a.2 = b.2 := h.filter p
end Go.Proofs.Ytnnphmpodcmmoaa
