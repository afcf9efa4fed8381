/- Package cores, in plain terms: for each level the row of those who have come and have work left; who runs in a tick. No program in sight. -/
namespace Go.Proofs.Ytningajaimbncaa

/-- The threads: how many, and of each when it comes, its level, its work; cores; the slice. -/
structure ThN where
  m : Nat
  come : Nat → Nat
  lev : Nat → Nat
  work : Nat → Nat
  c : Nat
  sl : Nat
structure StN where
  q : Nat → List Nat
  left : Nat → Nat
  ran : Nat → Nat
/-- From the n-th level down. -/
def downN (q : Nat → List Nat) : Nat → List Nat
  | 0 => []
  | n + 1 => q n ++ downN q n
def decN (s : StN) (run : List Nat) (k : Nat) : Nat := if k ∈ run then s.left k - 1 else s.left k
def incN (s : StN) (run : List Nat) (k : Nat) : Nat := if k ∈ run then s.ran k + 1 else s.ran k
namespace ThN
variable (T : ThN)
def newN : StN := ⟨fun _ => [], T.work, fun _ => 0⟩
def arrN (t j : Nat) : List Nat := (List.range T.m).filter fun k => decide (T.come k = t ∧ T.lev k = j ∧ 0 < T.work k)
def comeN (s : StN) (t : Nat) : StN := ⟨fun j => s.q j ++ T.arrN t j, s.left, s.ran⟩
def pickN (s : StN) : List Nat := (downN s.q 32).take T.c
def movN (s : StN) (run : List Nat) (k : Nat) : Bool := decide (k ∈ run ∧ (s.ran k + 1) % T.sl = 0)
def doN (s : StN) (run : List Nat) : StN :=
  ⟨fun j => (((s.q j).filter fun k => !T.movN s run k) ++ (s.q j).filter fun k => T.movN s run k).filter fun k => decide (0 < decN s run k), decN s run, incN s run⟩
def stepN (s : StN) (t : Nat) : StN := T.doN (T.comeN s t) (T.pickN (T.comeN s t))
def stN : Nat → StN
  | 0 => T.newN
  | t + 1 => T.stepN (stN t) t
/-- Who is ready in tick t, and who runs, in the order of the queue. -/
def atN (t : Nat) : StN := T.comeN (T.stN t) t
def runN (t : Nat) : List Nat := T.pickN (T.atN t)
theorem st_succ (t : Nat) : T.stN (t + 1) = T.doN (T.atN t) (T.runN t) := rfl
end ThN
theorem mem_downN {q : Nat → List Nat} {k : Nat} : ∀ {n : Nat}, k ∈ downN q n ↔ ∃ j, j < n ∧ k ∈ q j
  | 0 => by simp [downN]
  | n + 1 => by
    rw [downN, List.mem_append, mem_downN]
    constructor
    · rintro (h | ⟨j, hj, h⟩)
      · exact ⟨n, by omega, h⟩
      · exact ⟨j, by omega, h⟩
    · rintro ⟨j, hj, h⟩
      by_cases e : j = n
      · subst e; exact Or.inl h
      · exact Or.inr ⟨j, by omega, h⟩
/-- What holds before each tick: t ticks have gone by. -/
structure InvN (T : ThN) (t : Nat) (s : StN) : Prop where
  mem : ∀ j k, k ∈ s.q j ↔ k < T.m ∧ T.come k < t ∧ T.lev k = j ∧ 0 < s.left k
  nod : ∀ j, (s.q j).Pairwise fun a b => ¬ a = b
  sum : ∀ k, s.left k + s.ran k = T.work k
  late : ∀ k, t ≤ T.come k → s.ran k = 0
/-- .. and when those have come who come. -/
structure AtN (T : ThN) (t : Nat) (s : StN) : Prop where
  mem : ∀ j k, k ∈ s.q j ↔ k < T.m ∧ T.come k ≤ t ∧ T.lev k = j ∧ 0 < s.left k
  nod : ∀ j, (s.q j).Pairwise fun a b => ¬ a = b
  sum : ∀ k, s.left k + s.ran k = T.work k
  late : ∀ k, t < T.come k → s.ran k = 0
theorem nod_range : ∀ n, (List.range n).Pairwise fun a b => ¬ a = b := fun n => List.pairwise_lt_range.imp fun h => by omega
theorem inv_new (T : ThN) : InvN T 0 T.newN := ⟨fun j k => by simp [ThN.newN], fun j => List.Pairwise.nil, fun k => rfl, fun k _ => rfl⟩
theorem inv_come {T : ThN} {t : Nat} {s : StN} (h : InvN T t s) : AtN T t (T.comeN s t) := by
  refine ⟨fun j k => ?_, fun j => ?_, h.sum, fun k hk => h.late k (by omega)⟩
  · show k ∈ s.q j ++ T.arrN t j ↔ _
    rw [List.mem_append, h.mem]
    unfold ThN.arrN
    rw [List.mem_filter, List.mem_range, decide_eq_true_eq]
    constructor
    · rintro (⟨h1, h2, h3, h4⟩ | ⟨h1, h2, h3, h4⟩)
      · exact ⟨h1, by omega, h3, h4⟩
      · have h5 := h.sum k
        have h6 := h.late k (by omega)
        exact ⟨h1, by omega, h3, by simp only [ThN.comeN]; omega⟩
    · rintro ⟨h1, h2, h3, h4⟩
      by_cases e : T.come k = t
      · have h5 := h.sum k
        simp only [ThN.comeN] at h4
        exact Or.inr ⟨h1, e, h3, by omega⟩
      · exact Or.inl ⟨h1, by omega, h3, h4⟩
  · show (s.q j ++ T.arrN t j).Pairwise _
    rw [List.pairwise_append]
    refine ⟨h.nod j, (nod_range _).filter _, fun a ha b hb e => ?_⟩
    subst e
    unfold ThN.arrN at hb
    rw [List.mem_filter, decide_eq_true_eq] at hb
    have := (h.mem j a).1 ha
    omega
theorem dec_le {s : StN} {run : List Nat} (k : Nat) : decN s run k ≤ s.left k := by
  unfold decN
  split <;> omega
theorem at_do {T : ThN} {t : Nat} {s : StN} (h : AtN T t s) {run : List Nat} (hr : ∀ k ∈ run, T.come k ≤ t ∧ 0 < s.left k) : InvN T (t + 1) (T.doN s run) := by
  have hq : ∀ j k, k ∈ (T.doN s run).q j ↔ k ∈ s.q j ∧ 0 < decN s run k := fun j k => by
    show k ∈ List.filter _ _ ↔ _
    rw [List.mem_filter, decide_eq_true_eq, List.mem_append, List.mem_filter, List.mem_filter]
    constructor
    · rintro ⟨h1 | h1, h2⟩
      · exact ⟨h1.1, h2⟩
      · exact ⟨h1.1, h2⟩
    · rintro ⟨h1, h2⟩
      refine ⟨?_, h2⟩
      cases hm : T.movN s run k
      · exact Or.inl ⟨h1, rfl⟩
      · exact Or.inr ⟨h1, rfl⟩
  refine ⟨fun j k => ?_, fun j => ?_, fun k => ?_, fun k hk => ?_⟩
  · rw [hq, h.mem]
    have := dec_le (s := s) (run := run) k
    show _ ↔ k < T.m ∧ T.come k < t + 1 ∧ T.lev k = j ∧ 0 < decN s run k
    constructor
    · rintro ⟨⟨h1, h2, h3, _⟩, h5⟩
      exact ⟨h1, by omega, h3, h5⟩
    · rintro ⟨h1, h2, h3, h5⟩
      exact ⟨⟨h1, by omega, h3, by omega⟩, h5⟩
  · show (List.filter _ _).Pairwise _
    refine List.Pairwise.filter _ ?_
    rw [List.pairwise_append]
    refine ⟨(h.nod j).filter _, (h.nod j).filter _, fun a ha b hb e => ?_⟩
    subst e
    have h1 := (List.mem_filter.1 ha).2
    have h2 := (List.mem_filter.1 hb).2
    rw [h2] at h1
    cases h1
  · show decN s run k + incN s run k = T.work k
    have := h.sum k
    unfold decN incN
    by_cases e : k ∈ run
    · have := (hr k e).2
      rw [if_pos e, if_pos e]
      omega
    · rw [if_neg e, if_neg e]
      exact this
  · show incN s run k = 0
    unfold incN
    rw [if_neg fun e => by have := (hr k e).1; omega]
    exact h.late k (by omega)
theorem mem_at {T : ThN} (hl : ∀ k, k < T.m → T.lev k < 32) {t : Nat} {s : StN} (h : AtN T t s) (k : Nat) : k ∈ downN s.q 32 ↔ k < T.m ∧ T.come k ≤ t ∧ 0 < s.left k := by
  rw [mem_downN]
  constructor
  · rintro ⟨j, hj, hk⟩
    obtain ⟨h1, h2, h3, h4⟩ := (h.mem j k).1 hk
    exact ⟨h1, h2, h4⟩
  · rintro ⟨h1, h2, h4⟩
    exact ⟨T.lev k, hl k h1, (h.mem _ k).2 ⟨h1, h2, rfl, h4⟩⟩
theorem inv_st {T : ThN} (hl : ∀ k, k < T.m → T.lev k < 32) : ∀ t, InvN T t (T.stN t)
  | 0 => inv_new T
  | t + 1 => by
    have h := inv_come (inv_st hl t)
    refine at_do h fun k hk => ?_
    have := (mem_at hl h k).1 (List.mem_of_mem_take hk)
    exact ⟨this.2.1, this.2.2⟩
theorem at_at {T : ThN} (hl : ∀ k, k < T.m → T.lev k < 32) (t : Nat) : AtN T t (T.atN t) := inv_come (inv_st hl t)
/-- Along the row of all the levels fall. -/
theorem down_lev {T : ThN} {s : StN} {t : Nat} (h : AtN T t s) : ∀ n, (downN s.q n).Pairwise fun a b => T.lev b ≤ T.lev a
  | 0 => List.Pairwise.nil
  | n + 1 => by
    rw [downN, List.pairwise_append]
    refine ⟨?_, down_lev h n, fun a ha b hb => ?_⟩
    · refine (h.nod n).imp_of_mem ?_
      intro a b ha hb _
      have h1 := (h.mem n a).1 ha
      have h2 := (h.mem n b).1 hb
      omega
    · obtain ⟨j, hj, hb⟩ := mem_downN.1 hb
      have h1 := (h.mem n a).1 ha
      have h2 := (h.mem j b).1 hb
      omega
theorem down_nod {T : ThN} {s : StN} {t : Nat} (h : AtN T t s) : ∀ n, (downN s.q n).Pairwise fun a b => ¬ a = b
  | 0 => List.Pairwise.nil
  | n + 1 => by
    rw [downN, List.pairwise_append]
    refine ⟨h.nod n, down_nod h n, fun a ha b hb e => ?_⟩
    subst e
    obtain ⟨j, hj, hb⟩ := mem_downN.1 hb
    have h1 := (h.mem n a).1 ha
    have h2 := (h.mem j a).1 hb
    omega
/-- CoresBusy: who runs is ready; nobody who is ready, and does not run, is graver. -/
theorem run_ready {T : ThN} (hl : ∀ k, k < T.m → T.lev k < 32) (t k : Nat) (h : k ∈ T.runN t) : k < T.m ∧ T.come k ≤ t ∧ 0 < (T.stN t).left k :=
  (mem_at hl (at_at hl t) k).1 (List.mem_of_mem_take h)
theorem run_graver {T : ThN} (hl : ∀ k, k < T.m → T.lev k < 32) {t k o : Nat} (h : k ∈ T.runN t) (ho : o < T.m ∧ T.come o ≤ t ∧ 0 < (T.stN t).left o) (hn : ¬ o ∈ T.runN t) : T.lev o ≤ T.lev k := by
  have ha := at_at hl t
  have hd := down_lev ha 32
  have hm := (mem_at hl ha o).2 ho
  rw [← List.take_append_drop T.c (downN (T.atN t).q 32)] at hd hm
  rw [List.pairwise_append] at hd
  rcases List.mem_append.1 hm with q | q
  · exact absurd q hn
  · exact hd.2.2 k h o q
theorem run_nod {T : ThN} (hl : ∀ k, k < T.m → T.lev k < 32) (t : Nat) : (T.runN t).Pairwise fun a b => ¬ a = b := (down_nod (at_at hl t) 32).sublist (List.take_sublist _ _)
/-- Rows of the same members, none twice, are of one length. -/
theorem len_same : ∀ {a b : List Nat}, (a.Pairwise fun x y => ¬ x = y) → (b.Pairwise fun x y => ¬ x = y) → (∀ x, x ∈ a ↔ x ∈ b) → a.length = b.length
  | [], b, _, _, h => by
    cases b with
    | nil => rfl
    | cons y r => have := (h y).2 List.mem_cons_self; cases this
  | x :: a, b, h1, h2, h => by
    rw [List.pairwise_cons] at h1
    have hx : x ∈ b := (h x).1 List.mem_cons_self
    have hf : (b.filter fun y => decide (¬ y = x)).length + 1 = b.length := by
      clear h h1
      induction b with
      | nil => cases hx
      | cons y r ih =>
        rw [List.pairwise_cons] at h2
        by_cases e : y = x
        · rw [List.filter_cons_of_neg (by simpa using e)]
          have : r.filter (fun y => decide (¬ y = x)) = r := List.filter_eq_self.2 fun z hz => by
            have := h2.1 z hz
            rw [e] at this
            simpa using fun q : z = x => this q.symm
          rw [this]
          rfl
        · rw [List.filter_cons_of_pos (by simpa using e), List.length_cons, List.length_cons]
          rcases List.mem_cons.1 hx with q | q
          · exact absurd q.symm e
          · rw [ih h2.2 q]
    rw [List.length_cons, len_same h1.2 (h2.filter _) fun z => ?_, hf]
    rw [List.mem_filter, decide_eq_true_eq]
    constructor
    · intro hz
      exact ⟨(h z).1 (List.mem_cons_of_mem _ hz), fun e => h1.1 z hz e.symm⟩
    · rintro ⟨hz, hne⟩
      rcases List.mem_cons.1 ((h z).2 hz) with e | e
      · exact absurd e hne
      · exact e
theorem run_len {T : ThN} (hl : ∀ k, k < T.m → T.lev k < 32) (t : Nat) {ready : List Nat} (hn : ready.Pairwise fun x y => ¬ x = y) (hr : ∀ k, k ∈ ready ↔ k < T.m ∧ T.come k ≤ t ∧ 0 < (T.stN t).left k) : (T.runN t).length = min T.c ready.length := by
  have ha := at_at hl t
  show (List.take _ _).length = _
  rw [List.length_take, len_same (down_nod ha 32) hn fun k => (mem_at hl ha k).trans (hr k).symm]
/-- How often k ran in the first t ticks. -/
def cntN (T : ThN) (k : Nat) : Nat → Nat
  | 0 => 0
  | t + 1 => cntN T k t + if k ∈ T.runN t then 1 else 0
theorem ran_cnt {T : ThN} (k : Nat) : ∀ t, (T.stN t).ran k = cntN T k t
  | 0 => rfl
  | t + 1 => by
    rw [T.st_succ, cntN, ← ran_cnt k t]
    show incN (T.atN t) (T.runN t) k = _
    unfold incN
    split
    · rfl
    · rfl
theorem left_cnt {T : ThN} (hl : ∀ k, k < T.m → T.lev k < 32) (k t : Nat) : (T.stN t).left k + cntN T k t = T.work k := by
  rw [← ran_cnt]
  exact (inv_st hl t).sum k
/-- CoresDone: what is left of all falls, until nothing is. -/
def totN (f : Nat → Nat) : Nat → Nat
  | 0 => 0
  | n + 1 => totN f n + f n
theorem tot_le {f g : Nat → Nat} : ∀ {n : Nat}, (∀ k, k < n → f k ≤ g k) → totN f n ≤ totN g n
  | 0, _ => Nat.le_refl _
  | n + 1, h => by
    have h1 := tot_le (f := f) (g := g) (n := n) fun k hk => h k (by omega)
    have h2 := h n (by omega)
    simp only [totN]
    omega
theorem tot_lt {f g : Nat → Nat} : ∀ {n : Nat} {i : Nat}, (∀ k, k < n → f k ≤ g k) → i < n → f i < g i → totN f n < totN g n
  | 0, i, _, hi, _ => by omega
  | n + 1, i, h, hi, hlt => by
    have h2 := h n (by omega)
    simp only [totN]
    by_cases e : i = n
    · subst e
      have h1 := tot_le (f := f) (g := g) (n := i) fun k hk => h k (by omega)
      omega
    · have h1 := tot_lt (f := f) (g := g) (n := n) (i := i) (fun k hk => h k (by omega)) (by omega) hlt
      omega
theorem tot_zero {f : Nat → Nat} : ∀ {n : Nat}, totN f n = 0 → ∀ k, k < n → f k = 0
  | 0, _, k, hk => by omega
  | n + 1, h, k, hk => by
    simp only [totN] at h
    by_cases e : k = n
    · subst e; omega
    · exact tot_zero (n := n) (by omega) k (by omega)
theorem tot_some {f : Nat → Nat} : ∀ {n : Nat}, ¬ totN f n = 0 → ∃ k, k < n ∧ 0 < f k
  | 0, h => absurd rfl h
  | n + 1, h => by
    simp only [totN] at h
    by_cases e : f n = 0
    · obtain ⟨k, hk, hf⟩ := tot_some (f := f) (n := n) (by omega)
      exact ⟨k, by omega, hf⟩
    · exact ⟨n, by omega, by omega⟩
theorem left_succ {T : ThN} (t k : Nat) : (T.stN (t + 1)).left k = if k ∈ T.runN t then (T.stN t).left k - 1 else (T.stN t).left k := rfl
theorem tot_step {T : ThN} (hl : ∀ k, k < T.m → T.lev k < 32) (hc : 0 < T.c) {t : Nat} (ht : ∀ k, k < T.m → T.come k ≤ t) : totN (T.stN (t + 1)).left T.m ≤ totN (T.stN t).left T.m - 1 := by
  have hle : ∀ k, k < T.m → (T.stN (t + 1)).left k ≤ (T.stN t).left k := fun k _ => by
    rw [left_succ]
    split <;> omega
  by_cases h0 : totN (T.stN t).left T.m = 0
  · have := tot_le hle
    omega
  · obtain ⟨k, hk, hf⟩ := tot_some h0
    have ha := at_at hl t
    have hm := (mem_at hl ha k).2 ⟨hk, ht k hk, hf⟩
    obtain ⟨x, r, hx⟩ : ∃ x r, downN (T.atN t).q 32 = x :: r := by
      cases hq : downN (T.atN t).q 32 with
      | nil => rw [hq] at hm; cases hm
      | cons x r => exact ⟨x, r, rfl⟩
    have hxr : x ∈ T.runN t := by
      show x ∈ List.take T.c (downN (T.atN t).q 32)
      rw [hx]
      obtain ⟨c', hc'⟩ : ∃ c', T.c = c' + 1 := ⟨T.c - 1, by omega⟩
      rw [hc', List.take_succ_cons]
      exact List.mem_cons_self
    have hxm := run_ready hl t x hxr
    have := tot_lt hle hxm.1 (by rw [left_succ, if_pos hxr]; omega)
    omega
theorem tot_fall {T : ThN} (hl : ∀ k, k < T.m → T.lev k < 32) (hc : 0 < T.c) {t : Nat} (ht : ∀ k, k < T.m → T.come k ≤ t) : ∀ n, totN (T.stN (t + n)).left T.m ≤ totN (T.stN t).left T.m - n
  | 0 => Nat.le_refl _
  | n + 1 => by
    have h1 := tot_fall hl hc ht n
    have h2 := tot_step hl hc (t := t + n) fun k hk => Nat.le_trans (ht k hk) (Nat.le_add_right _ _)
    show totN (T.stN (t + n + 1)).left T.m ≤ _
    omega
theorem all_done {T : ThN} (hl : ∀ k, k < T.m → T.lev k < 32) (hc : 0 < T.c) {t : Nat} (ht : ∀ k, k < T.m → T.come k ≤ t) (k : Nat) (hk : k < T.m) : cntN T k (t + totN T.work T.m) = T.work k := by
  have h1 := tot_fall hl hc ht (totN T.work T.m)
  have h2 : totN (T.stN t).left T.m ≤ totN T.work T.m := tot_le fun k _ => by
    have := (inv_st hl t).sum k
    omega
  have h3 := tot_zero (f := (T.stN (t + totN T.work T.m)).left) (n := T.m) (by omega) k hk
  have h4 := left_cnt hl k (t + totN T.work T.m)
  omega
end Go.Proofs.Ytningajaimbncaa
