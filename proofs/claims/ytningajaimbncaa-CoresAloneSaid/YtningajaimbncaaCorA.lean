/- Package cores, in plain terms: the program's own queue and the document's own line come to the same rows, one a level. No program in sight. -/
import Derived.Test.YtningajaimbncaaCoresP
import Derived.Test.YtningajaimbncaaSprS
import Derived.Test.YtningajaimbncaaSprN
namespace Go.Proofs.Ytningajaimbncaa

theorem pw_uniq {R : Nat → Nat → Prop} (as : ∀ x y, R x y → R y x → False) : ∀ {a b : List Nat}, a.Pairwise R → b.Pairwise R → (∀ x, x ∈ a ↔ x ∈ b) → a = b
  | [], b, _, _, h => by
    cases b with
    | nil => rfl
    | cons y r => have := (h y).2 List.mem_cons_self; cases this
  | x :: a, b, h1, h2, h => by
    cases b with
    | nil => have := (h x).1 List.mem_cons_self; cases this
    | cons y b =>
      rw [List.pairwise_cons] at h1 h2
      have e : x = y := by
        rcases List.mem_cons.1 ((h x).1 List.mem_cons_self) with e | e
        · exact e
        · rcases List.mem_cons.1 ((h y).2 List.mem_cons_self) with e' | e'
          · exact e'.symm
          · exact (as x y (h1.1 y e') (h2.1 x e)).elim
      subst e
      congr 1
      refine pw_uniq as h1.2 h2.2 fun z => ?_
      constructor
      · intro hz
        rcases List.mem_cons.1 ((h z).1 (List.mem_cons_of_mem _ hz)) with e | e
        · subst e; exact (as z z (h1.1 z hz) (h1.1 z hz)).elim
        · exact e
      · intro hz
        rcases List.mem_cons.1 ((h z).2 (List.mem_cons_of_mem _ hz)) with e | e
        · subst e; exact (as z z (h2.1 z hz) (h2.1 z hz)).elim
        · exact e
theorem map_down (f : Nat → List Nat) (g : Nat → Nat) : ∀ n, (downN f n).map g = downN (fun j => (f j).map g) n
  | 0 => rfl
  | n + 1 => by rw [downN, downN, List.map_append, map_down f g n]
theorem down_congr {f g : Nat → List Nat} : ∀ {n : Nat}, (∀ j, j < n → f j = g j) → downN f n = downN g n
  | 0, _ => rfl
  | n + 1, h => by rw [downN, downN, h n (by omega), down_congr fun j hj => h j (by omega)]
theorem range_getD (l : List Nat) : (List.range l.length).map (fun i => l.getD i 0) = l := by
  apply List.ext_getElem
  · simp
  · intro i h1 h2
    simp at h1
    simp [h1]
/-- Stable sorting by falling levels lays one level behind the other. -/
theorem stable_down {lev : Nat → Nat} {ready : List Nat} {O : Nat → Nat} {aq : Nat → List Nat} (hO : Perm O ready.length) (hS : Srt (fun i => lev (ready.getD i 0)) O 0 ready.length) (hl : ∀ k ∈ ready, lev k < 32) (hq : ∀ j, j < 32 → (ready.filter fun k => decide (lev k = j)) = aq j) :
    (List.range ready.length).map (fun i => ready.getD (O i) 0) = downN aq 32 := by
  obtain ⟨ws, hws⟩ : ∃ ws : Nat → Nat, (fun i => lev (ready.getD i 0)) = ws := ⟨_, rfl⟩
  rw [hws] at hS
  have hlt : ∀ i, i < ready.length → ws i < 32 := fun i hi => by
    rw [← hws]
    show lev (ready.getD i 0) < 32
    have e : ready.getD i 0 = ready[i] := by simp [List.getD, List.getElem?_eq_getElem hi]
    rw [e]
    exact hl _ (List.getElem_mem hi)
  have e1 : (List.range ready.length).map O = downN (fun j => (List.range ready.length).filter fun i => decide (ws i = j)) 32 := by
    refine pw_uniq (R := Lt ws) (fun x y h k => h.asymm k) ?_ ?_ fun x => ?_
    · rw [List.pairwise_map]
      refine List.pairwise_lt_range.imp_of_mem ?_
      intro i j hi hj hij
      exact hS i j (Nat.zero_le _) hij (List.mem_range.1 hj)
    · have key : ∀ n, (downN (fun j => (List.range ready.length).filter fun i => decide (ws i = j)) n).Pairwise (Lt ws) := by
        intro n
        induction n with
        | zero => exact List.Pairwise.nil
        | succ n ih =>
          rw [downN, List.pairwise_append]
          refine ⟨?_, ih, fun a ha b hb => ?_⟩
          · refine (List.pairwise_lt_range.filter _).imp_of_mem ?_
            intro a b ha hb hab
            rw [List.mem_filter, decide_eq_true_eq] at ha hb
            exact Or.inr ⟨by rw [ha.2, hb.2], hab⟩
          · obtain ⟨j, hj, hb⟩ := mem_downN.1 hb
            rw [List.mem_filter, decide_eq_true_eq] at ha hb
            exact Or.inl (by rw [ha.2, hb.2]; exact hj)
      exact key 32
    · rw [mem_downN, List.mem_map]
      constructor
      · rintro ⟨i, hi, rfl⟩
        have h := hO.1 i (List.mem_range.1 hi)
        exact ⟨ws (O i), hlt _ h, List.mem_filter.2 ⟨List.mem_range.2 h, by simp⟩⟩
      · rintro ⟨j, hj, h⟩
        rw [List.mem_filter] at h
        obtain ⟨i, hi, e⟩ := perm_onto hO (List.mem_range.1 h.1)
        exact ⟨i, List.mem_range.2 hi, e⟩
  have e2 := congrArg (List.map fun i => ready.getD i 0) e1
  rw [List.map_map, map_down] at e2
  refine Eq.trans e2 (down_congr fun j hj => ?_)
  rw [← hq j hj]
  have h3 : ready.filter (fun k => decide (lev k = j)) = ((List.range ready.length).map fun i => ready.getD i 0).filter (fun k => decide (lev k = j)) := by rw [range_getD]
  rw [h3, List.filter_map]
  congr 1
  refine List.filter_congr fun i _ => ?_
  show decide (ws i = j) = decide (lev (ready.getD i 0) = j)
  rw [← hws]
theorem mod_turn {a s : Nat} (hs : 0 < s) : (a % s + 1 = s ↔ (a + 1) % s = 0) ∧ (¬ a % s + 1 = s → (a + 1) % s = a % s + 1) := by
  have h1 := Nat.mod_lt a hs
  have h2 : (a + 1) % s = (a % s + 1) % s := (Nat.mod_add_mod a s 1).symm
  by_cases e : a % s + 1 = s
  · refine ⟨⟨fun _ => by rw [h2, e, Nat.mod_self], fun _ => e⟩, fun h => absurd e h⟩
  · have h3 : (a % s + 1) % s = a % s + 1 := Nat.mod_eq_of_lt (by omega)
    refine ⟨⟨fun h => absurd h e, fun h => by rw [h2, h3] at h; omega⟩, fun _ => by rw [h2, h3]⟩
/-- The program's own state: the queue of all who came, what is left, for how long each ran since it came or was moved. -/
structure StM where
  q : List Nat
  left : Nat → Nat
  ran : Nat → Nat
def cameN (T : ThN) (t i : Nat) : List Nat := (List.range i).filter fun k => decide (T.come k = t)
theorem came_succ (T : ThN) (t i : Nat) : cameN T t (i + 1) = cameN T t i ++ if T.come i = t then [i] else [] := by
  unfold cameN
  rw [List.range_succ, List.filter_append]
  congr 1
  by_cases h : T.come i = t
  · rw [if_pos h]; simp [h]
  · rw [if_neg h]; simp [h]
theorem came_len (T : ThN) (t i : Nat) : (cameN T t i).length ≤ i := by
  unfold cameN
  have := List.length_filter_le (fun k => decide (T.come k = t)) (List.range i)
  simpa using this
theorem came_mono (T : ThN) (t : Nat) {i n : Nat} (h : i < n) : (cameN T t (i + 1)).length ≤ (cameN T t n).length := by
  obtain ⟨d, rfl⟩ : ∃ d, n = i + 1 + d := ⟨n - (i + 1), by omega⟩
  clear h
  induction d with
  | zero => exact Nat.le_refl _
  | succ d ih =>
    have e := congrArg List.length (came_succ T t (i + 1 + d))
    rw [List.length_append] at e
    exact Nat.le_trans ih (by rw [← Nat.add_assoc, e]; exact Nat.le_add_right _ _)
theorem mem_came {T : ThN} {t i k : Nat} : k ∈ cameN T t i ↔ k < i ∧ T.come k = t := by
  unfold cameN
  rw [List.mem_filter, List.mem_range, decide_eq_true_eq]
namespace StM
def arr (s : StM) (T : ThN) (t : Nat) : StM := ⟨s.q ++ cameN T t T.m, s.left, s.ran⟩
def ready (s : StM) : List Nat := s.q.filter fun k => decide (0 < s.left k)
def decM (s : StM) (R : List Nat) (k : Nat) : Nat := if k ∈ R then s.left k - 1 else s.left k
def incM (s : StM) (R : List Nat) (k : Nat) : Nat := if k ∈ R then s.ran k + 1 else s.ran k
def did (s : StM) (R : List Nat) : StM := ⟨s.q, s.decM R, s.incM R⟩
def over (s : StM) (sl k : Nat) : Bool := decide (s.ran k = sl)
def rot (s : StM) (sl : Nat) : StM := ⟨(s.q.filter fun k => !s.over sl k) ++ s.q.filter fun k => s.over sl k, s.left, fun k => if s.over sl k = true then 0 else s.ran k⟩
end StM
/-- The program's state before tick t, against the rows of each level. -/
structure TieM (T : ThN) (t : Nat) (s : StM) (a : StN) : Prop where
  q : ∀ j, (s.q.filter fun k => decide (T.lev k = j ∧ 0 < s.left k)) = a.q j
  left : s.left = a.left
  ran : ∀ k, s.ran k = a.ran k % T.sl
  mem : ∀ k ∈ s.q, k < T.m ∧ T.come k < t
  nod : s.q.Pairwise fun x y => ¬ x = y
theorem tie_newM (T : ThN) : TieM T 0 ⟨[], T.work, fun _ => 0⟩ T.newN := ⟨fun _ => rfl, rfl, fun _ => (Nat.zero_mod _).symm, (fun k h => by cases h), List.Pairwise.nil⟩
theorem nod_came (T : ThN) (t i : Nat) : (cameN T t i).Pairwise fun x y => ¬ x = y := (nod_range i).filter _
section
variable {T : ThN} {t : Nat} {s : StM} {a : StN}
theorem TieM.new (h : TieM T t s a) (hi : InvN T t a) {k : Nat} (hk : T.come k = t) : ¬ k ∈ s.q ∧ s.left k = T.work k ∧ s.ran k = 0 := by
  have h1 := hi.late k (by omega)
  have h2 := hi.sum k
  refine ⟨fun e => by have := (h.mem k e).2; omega, by rw [h.left]; omega, by rw [h.ran, h1, Nat.zero_mod]⟩
theorem TieM.arr (h : TieM T t s a) (hi : InvN T t a) : TieM T (t + 1) (s.arr T t) (T.comeN a t) := by
  refine ⟨fun j => ?_, h.left, h.ran, fun k hk => ?_, ?_⟩
  · show ((s.q ++ cameN T t T.m).filter _) = a.q j ++ T.arrN t j
    rw [List.filter_append, ← h.q j]
    congr 1
    unfold cameN ThN.arrN
    rw [List.filter_filter]
    refine List.filter_congr fun k _ => ?_
    by_cases e : T.come k = t
    · have := (h.new hi e).2.1
      show (decide (T.lev k = j ∧ 0 < s.left k) && decide (T.come k = t)) = _
      rw [this]
      by_cases e2 : T.lev k = j <;> by_cases e3 : 0 < T.work k <;> simp [e, e2, e3]
    · simp [e]
  · rcases List.mem_append.1 hk with hk | hk
    · have := h.mem k hk; exact ⟨this.1, by omega⟩
    · have := mem_came.1 hk; exact ⟨this.1, by omega⟩
  · show (s.q ++ cameN T t T.m).Pairwise _
    rw [List.pairwise_append]
    refine ⟨h.nod, nod_came T t T.m, fun x hx y hy e => ?_⟩
    subst e
    have h1 := (h.mem x hx).2
    have h2 := (mem_came.1 hy).2
    omega
theorem TieM.ready (h : TieM T t s a) (j : Nat) : (s.ready.filter fun k => decide (T.lev k = j)) = a.q j := by
  rw [← h.q j]
  unfold StM.ready
  rw [List.filter_filter]
  refine List.filter_congr fun k _ => ?_
  by_cases e2 : T.lev k = j <;> by_cases e3 : 0 < s.left k <;> simp [e2, e3]
theorem TieM.over (h : TieM T t s a) (hs : 0 < T.sl) (R : List Nat) (k : Nat) : (s.did R).over T.sl k = T.movN a R k := by
  unfold StM.over ThN.movN StM.did StM.incM
  have hm := mod_turn (a := a.ran k) hs
  have hr := h.ran k
  by_cases e : k ∈ R
  · rw [decide_eq_decide]
    show (if k ∈ R then s.ran k + 1 else s.ran k) = T.sl ↔ _
    rw [if_pos e, hr, hm.1]
    exact ⟨fun h => ⟨e, h⟩, fun h => h.2⟩
  · rw [decide_eq_decide]
    show (if k ∈ R then s.ran k + 1 else s.ran k) = T.sl ↔ _
    rw [if_neg e, hr]
    have := Nat.mod_lt (a.ran k) hs
    exact ⟨fun h => by omega, fun h => absurd h.1 e⟩
theorem TieM.did (h : TieM T t s a) (hs : 0 < T.sl) (R : List Nat) : TieM T t ((s.did R).rot T.sl) (T.doN a R) := by
  have hov := h.over hs R
  refine ⟨fun j => ?_, ?_, fun k => ?_, fun k hk => ?_, ?_⟩
  · show (((s.q.filter fun k => !(s.did R).over T.sl k) ++ s.q.filter fun k => (s.did R).over T.sl k).filter fun k => decide (T.lev k = j ∧ 0 < s.decM R k)) = (((a.q j).filter fun k => !T.movN a R k) ++ (a.q j).filter fun k => T.movN a R k).filter fun k => decide (0 < decN a R k)
    rw [List.filter_append, List.filter_append, ← h.q j]
    have hd : ∀ k, s.decM R k = decN a R k := fun k => by unfold StM.decM decN; rw [h.left]
    have hp : ∀ k, 0 < decN a R k → 0 < s.left k := fun k hk => by
      rw [h.left]
      unfold decN at hk
      split at hk <;> omega
    congr 1
    · rw [List.filter_filter, List.filter_filter, List.filter_filter]
      refine List.filter_congr fun k _ => ?_
      rw [hov, hd]
      have := hp k
      by_cases e1 : T.lev k = j <;> by_cases e2 : 0 < decN a R k <;> cases T.movN a R k <;> simp_all
    · rw [List.filter_filter, List.filter_filter, List.filter_filter]
      refine List.filter_congr fun k _ => ?_
      rw [hov, hd]
      have := hp k
      by_cases e1 : T.lev k = j <;> by_cases e2 : 0 < decN a R k <;> cases T.movN a R k <;> simp_all
  · show s.decM R = decN a R
    funext k
    unfold StM.decM decN
    rw [h.left]
  · show (if (s.did R).over T.sl k = true then 0 else (s.did R).ran k) = incN a R k % T.sl
    have hm := mod_turn (a := a.ran k) hs
    have hr := h.ran k
    rw [hov]
    unfold ThN.movN
    show (if _ then 0 else s.incM R k) = _
    unfold incN StM.incM
    by_cases e : k ∈ R
    · rw [if_pos e, if_pos e]
      by_cases e2 : (a.ran k + 1) % T.sl = 0
      · rw [if_pos (decide_eq_true ⟨e, e2⟩), e2]
      · rw [if_neg (by rw [decide_eq_true_eq]; exact fun h => e2 h.2), hr, hm.2 fun h => e2 (hm.1.1 h)]
    · rw [if_neg e, if_neg e, if_neg (by rw [decide_eq_true_eq]; exact fun h => e h.1), hr]
  · replace hk : k ∈ (s.q.filter fun k => !(s.did R).over T.sl k) ++ s.q.filter fun k => (s.did R).over T.sl k := hk
    rcases List.mem_append.1 hk with hk | hk
    · exact h.mem k (List.mem_filter.1 hk).1
    · exact h.mem k (List.mem_filter.1 hk).1
  · show ((s.q.filter fun k => !(s.did R).over T.sl k) ++ s.q.filter fun k => (s.did R).over T.sl k).Pairwise _
    rw [List.pairwise_append]
    refine ⟨h.nod.filter _, h.nod.filter _, fun x hx y hy e => ?_⟩
    subst e
    have h1 := (List.mem_filter.1 hx).2
    have h2 := (List.mem_filter.1 hy).2
    rw [h2] at h1
    cases h1
end
/-- The document's own line: all who came; whoever is moved goes to the end. -/
def mvL (mv : Nat → Bool) (R : List Nat) (line : List Nat) : List Nat := (line.filter fun x => !decide (x ∈ R.filter mv)) ++ R.filter mv
theorem mvL_nil (mv : Nat → Bool) (line : List Nat) : mvL mv [] line = line := by
  unfold mvL
  simp
theorem mvL_step (mv : Nat → Bool) {R : List Nat} {k : Nat} (line : List Nat) (hk : ¬ k ∈ R) : mvL mv (R ++ [k]) line = if mv k = true then ((mvL mv R line).filter fun x => decide (¬ x = k)) ++ [k] else mvL mv R line := by
  unfold mvL
  rw [List.filter_append]
  by_cases e : mv k = true
  · rw [if_pos e]
    have e1 : [k].filter mv = [k] := by simp [e]
    rw [e1, List.filter_append, List.filter_filter, ← List.append_assoc]
    congr 2
    · refine List.filter_congr fun x _ => ?_
      by_cases h1 : x = k <;> by_cases h2 : x ∈ R.filter mv <;> simp [h1, h2] <;> simp_all
    · symm
      refine List.filter_eq_self.2 fun x hx => ?_
      have : x ∈ R := (List.mem_filter.1 hx).1
      simpa using fun q : x = k => hk (q ▸ this)
  · rw [if_neg e]
    have e1 : [k].filter mv = [] := by simp [e]
    rw [e1, List.append_nil]
structure TieL (T : ThN) (t : Nat) (line : List Nat) (a : StN) : Prop where
  q : ∀ j, (line.filter fun k => decide (T.lev k = j ∧ 0 < a.left k)) = a.q j
  mem : ∀ k ∈ line, k < T.m ∧ T.come k < t
  nod : line.Pairwise fun x y => ¬ x = y
theorem tie_newL (T : ThN) : TieL T 0 [] T.newN := ⟨fun _ => rfl, (fun k h => by cases h), List.Pairwise.nil⟩
theorem TieL.arr {T : ThN} {t : Nat} {line : List Nat} {a : StN} (h : TieL T t line a) (hi : InvN T t a) : TieL T (t + 1) (line ++ cameN T t T.m) (T.comeN a t) := by
  refine ⟨fun j => ?_, fun k hk => ?_, ?_⟩
  · show ((line ++ cameN T t T.m).filter fun k => decide (T.lev k = j ∧ 0 < a.left k)) = a.q j ++ T.arrN t j
    rw [List.filter_append, ← h.q j]
    congr 1
    unfold cameN ThN.arrN
    rw [List.filter_filter]
    refine List.filter_congr fun k _ => ?_
    by_cases e : T.come k = t
    · have h1 := hi.late k (by omega)
      have h2 := hi.sum k
      have h3 : a.left k = T.work k := by omega
      rw [h3]
      by_cases e2 : T.lev k = j <;> by_cases e3 : 0 < T.work k <;> simp [e, e2, e3]
    · simp [e]
  · rcases List.mem_append.1 hk with hk | hk
    · have := h.mem k hk; exact ⟨this.1, by omega⟩
    · have := mem_came.1 hk; exact ⟨this.1, by omega⟩
  · rw [List.pairwise_append]
    refine ⟨h.nod, nod_came T t T.m, fun x hx y hy e => ?_⟩
    subst e
    have h1 := (h.mem x hx).2
    have h2 := (mem_came.1 hy).2
    omega
theorem down_lev_filter {T : ThN} {s : StN} {t : Nat} (h : AtN T t s) (j : Nat) : ∀ n, ((downN s.q n).filter fun k => decide (T.lev k = j)) = if j < n then s.q j else []
  | 0 => by simp [downN]
  | n + 1 => by
    rw [downN, List.filter_append, down_lev_filter h j n]
    by_cases e : j = n
    · subst e
      rw [if_neg (Nat.lt_irrefl _), if_pos (Nat.lt_succ_self _), List.append_nil]
      exact List.filter_eq_self.2 fun k hk => by simpa using ((h.mem j k).1 hk).2.2.1
    · have e1 : (s.q n).filter (fun k => decide (T.lev k = j)) = [] := List.filter_eq_nil_iff.2 fun k hk => by
        have := ((h.mem n k).1 hk).2.2.1
        simp; omega
      rw [e1, List.nil_append]
      by_cases e2 : j < n
      · rw [if_pos e2, if_pos (by omega)]
      · rw [if_neg e2, if_neg (by omega)]
theorem filter_take_all {l : List Nat} {c : Nat} {p : Nat → Bool} (hn : l.Pairwise fun x y => ¬ x = y) (hp : ∀ k, p k = true → k ∈ l.take c) : (l.take c).filter p = l.filter p := by
  have e : l = l.take c ++ l.drop c := (List.take_append_drop c l).symm
  have h2 : (l.drop c).filter p = [] := List.filter_eq_nil_iff.2 fun k hk q => by
    have h1 := hp k q
    rw [e, List.pairwise_append] at hn
    exact hn.2.2 k h1 k hk rfl
  have h3 : l.filter p = (l.take c).filter p ++ (l.drop c).filter p := by rw [← List.filter_append, List.take_append_drop]
  rw [h3, h2, List.append_nil]
theorem TieL.did {T : ThN} {t : Nat} {line : List Nat} {a : StN} (h : TieL T (t + 1) line a) (ha : AtN T t a) (hl : ∀ k, k < T.m → T.lev k < 32) : TieL T (t + 1) (mvL (T.movN a (T.pickN a)) (T.pickN a) line) (T.doN a (T.pickN a)) := by
  obtain ⟨R, hR⟩ : ∃ R, T.pickN a = R := ⟨_, rfl⟩
  have hmem : ∀ k ∈ R, k ∈ line := fun k hk => by
    rw [← hR] at hk
    obtain ⟨j, hj, hk⟩ := mem_downN.1 (List.mem_of_mem_take hk)
    rw [← h.q j] at hk
    exact (List.mem_filter.1 hk).1
  have hmv : ∀ k, T.movN a R k = true → k ∈ R := fun k hk => (of_decide_eq_true hk).1
  have hRf : R.filter (T.movN a R) = (downN a.q 32).filter (T.movN a R) := by
    rw [← hR]
    exact filter_take_all (down_nod ha 32) fun k hk => by
      have := hmv k (by rw [hR] at hk; exact hk)
      rw [← hR] at this
      exact this
  have hin : ∀ k, k ∈ R.filter (T.movN a R) ↔ T.movN a R k = true := fun k => by
    rw [List.mem_filter]
    exact ⟨fun h => h.2, fun h => ⟨hmv k h, h⟩⟩
  rw [hR]
  refine ⟨fun j => ?_, fun k hk => ?_, ?_⟩
  · show ((mvL (T.movN a R) R line).filter fun k => decide (T.lev k = j ∧ 0 < decN a R k)) = (((a.q j).filter fun k => !T.movN a R k) ++ (a.q j).filter fun k => T.movN a R k).filter fun k => decide (0 < decN a R k)
    have hp : ∀ k, 0 < decN a R k → 0 < a.left k := fun k hk => by
      unfold decN at hk
      split at hk <;> omega
    unfold mvL
    rw [List.filter_append, List.filter_append]
    congr 1
    · rw [← h.q j, List.filter_filter, List.filter_filter, List.filter_filter]
      refine List.filter_congr fun k _ => ?_
      have := hp k
      have h5 : decide (k ∈ R.filter (T.movN a R)) = T.movN a R k := by
        rw [Bool.eq_iff_iff, decide_eq_true_eq]
        exact hin k
      rw [h5]
      by_cases e1 : T.lev k = j <;> by_cases e2 : 0 < decN a R k <;> cases T.movN a R k <;> simp_all
    · rw [hRf, List.filter_filter]
      by_cases hj : j < 32
      · have h6 := down_lev_filter ha j 32
        rw [if_pos hj] at h6
        rw [← h6, List.filter_filter, List.filter_filter]
        refine List.filter_congr fun k _ => ?_
        by_cases e1 : T.lev k = j <;> by_cases e2 : 0 < decN a R k <;> cases T.movN a R k <;> simp_all
      · have h7 : a.q j = [] := by
          cases hq : a.q j with
          | nil => rfl
          | cons x r =>
            have := (ha.mem j x).1 (by rw [hq]; exact List.mem_cons_self)
            have := hl x this.1
            omega
        rw [h7]
        refine List.filter_eq_nil_iff.2 fun k hk => ?_
        obtain ⟨i, hi, hk⟩ := mem_downN.1 hk
        have := ((ha.mem i k).1 hk).2.2.1
        simp
        intro e
        omega
  · replace hk : k ∈ mvL (T.movN a R) R line := hk
    unfold mvL at hk
    rcases List.mem_append.1 hk with hk | hk
    · exact h.mem k (List.mem_filter.1 hk).1
    · exact h.mem k (hmem k (List.mem_filter.1 hk).1)
  · show (mvL (T.movN a R) R line).Pairwise _
    unfold mvL
    rw [List.pairwise_append]
    refine ⟨h.nod.filter _, ?_, fun x hx y hy e => ?_⟩
    · rw [hRf]; exact (down_nod ha 32).filter _
    · subst e
      have := (List.mem_filter.1 hx).2
      simp [hy] at this
end Go.Proofs.Ytningajaimbncaa
