/- Package tty, in plain terms: lines, and one that is being written. No program in sight. -/
namespace Go.Proofs.YtomgifdnnfbpnaaDoor

structure StQ where
  lines : List (List UInt8)
  edit : List UInt8
def newQ : StQ := ⟨[], []⟩
def plainQ (b : UInt8) : Prop := ¬ b = 8 ∧ ¬ b = 21 ∧ ¬ b = 4 ∧ ¬ b = 10 ∧ ¬ b = 23
instance (b : UInt8) : Decidable (plainQ b) := by unfold plainQ; infer_instance
/-- Without the last ones that are so. -/
def cutQ (p : UInt8 → Bool) (e : List UInt8) : List UInt8 := (e.reverse.dropWhile p).reverse
def wordQ (e : List UInt8) : List UInt8 := cutQ (fun b => !decide (b = 32)) (cutQ (fun b => decide (b = 32)) e)
def errQ (s : StQ) (b : UInt8) : Int :=
  if b = 10 ∨ b = 4 then if 400 ≤ s.lines.length then 4 else 0
  else if plainQ b then if 64 ≤ s.edit.length then 4 else 0
  else 0
def doQ (s : StQ) (b : UInt8) : StQ :=
  if b = 10 then ⟨s.lines ++ [s.edit ++ [10]], []⟩
  else if b = 4 then ⟨s.lines ++ [s.edit], []⟩
  else if b = 8 then ⟨s.lines, s.edit.dropLast⟩
  else if b = 21 then ⟨s.lines, []⟩
  else if b = 23 then ⟨s.lines, wordQ s.edit⟩
  else ⟨s.lines, s.edit ++ [b]⟩
def keyQ (s : StQ) (b : UInt8) : StQ := if errQ s b = 0 then doQ s b else s
def typeQ : StQ → List UInt8 → StQ
  | s, [] => s
  | s, b :: r => typeQ (keyQ s b) r
structure GoodQ (s : StQ) : Prop where
  edit : s.edit.length ≤ 64
  many : s.lines.length ≤ 400
  lens : ∀ l ∈ s.lines, l.length ≤ 65
theorem good_newQ : GoodQ newQ := ⟨by decide, by decide, fun l h => (by cases h)⟩
theorem typeQ_append : ∀ {a b : List UInt8} {s : StQ}, typeQ s (a ++ b) = typeQ (typeQ s a) b
  | [], _, _ => rfl
  | _ :: a, _, _ => typeQ_append (a := a)
theorem typeQ_next {ks : List UInt8} {j : Nat} {b : UInt8} (h : ks[j]? = some b) (s : StQ) : typeQ s (ks.take (j + 1)) = keyQ (typeQ s (ks.take j)) b := by
  have e : ks.take (j + 1) = ks.take j ++ [b] := by rw [List.take_add_one, h]; rfl
  rw [e, typeQ_append]
  rfl
theorem cut_leQ (p : UInt8 → Bool) (e : List UInt8) : (cutQ p e).length ≤ e.length := by
  unfold cutQ
  rw [List.length_reverse]
  have := (List.dropWhile_suffix (l := e.reverse) p).length_le
  rw [List.length_reverse] at this
  exact this
theorem good_keyQ {s : StQ} (h : GoodQ s) (b : UInt8) : GoodQ (keyQ s b) := by
  unfold keyQ
  by_cases he : errQ s b = 0
  · rw [if_pos he]
    unfold errQ at he
    have h1 := h.edit
    have h2 := h.many
    unfold doQ
    by_cases b10 : b = 10
    · rw [if_pos b10]
      rw [if_pos (Or.inl b10)] at he
      have h3 : ¬ 400 ≤ s.lines.length := fun q => by rw [if_pos q] at he; cases he
      refine ⟨by simp, by simp; omega, fun l hl => ?_⟩
      rcases List.mem_append.1 hl with q | q
      · exact h.lens l q
      · rw [List.mem_singleton] at q
        rw [q, List.length_append]
        simp only [List.length_cons, List.length_nil]
        omega
    · rw [if_neg b10]
      by_cases b4 : b = 4
      · rw [if_pos b4]
        rw [if_pos (Or.inr b4)] at he
        have h3 : ¬ 400 ≤ s.lines.length := fun q => by rw [if_pos q] at he; cases he
        refine ⟨by simp, by simp; omega, fun l hl => ?_⟩
        rcases List.mem_append.1 hl with q | q
        · exact h.lens l q
        · rw [List.mem_singleton] at q
          rw [q]
          omega
      · rw [if_neg b4]
        by_cases b8 : b = 8
        · rw [if_pos b8]
          exact ⟨by rw [List.length_dropLast]; omega, h2, h.lens⟩
        · rw [if_neg b8]
          by_cases b21 : b = 21
          · rw [if_pos b21]
            exact ⟨by simp, h2, h.lens⟩
          · rw [if_neg b21]
            by_cases b23 : b = 23
            · rw [if_pos b23]
              refine ⟨?_, h2, h.lens⟩
              have h3 := cut_leQ (fun b => decide (b = 32)) s.edit
              have h4 := cut_leQ (fun b => !decide (b = 32)) (cutQ (fun b => decide (b = 32)) s.edit)
              show (wordQ s.edit).length ≤ 64
              unfold wordQ
              omega
            · rw [if_neg b23]
              have hp : plainQ b := ⟨b8, b21, b4, b10, b23⟩
              rw [if_neg (fun q => by rcases q with q | q; exact b10 q; exact b4 q), if_pos hp] at he
              have h3 : ¬ 64 ≤ s.edit.length := fun q => by rw [if_pos q] at he; cases he
              exact ⟨by rw [List.length_append]; simp only [List.length_cons, List.length_nil]; omega, h2, h.lens⟩
  · rw [if_neg he]
    exact h
theorem good_typeQ : ∀ {ks : List UInt8} {s : StQ}, GoodQ s → GoodQ (typeQ s ks)
  | [], _, h => h
  | b :: r, s, h => by rw [typeQ]; exact good_typeQ (good_keyQ h b)
/-- A plain byte, where there is room. -/
theorem key_plain {s : StQ} {b : UInt8} (hb : plainQ b) (hr : s.edit.length < 64) : keyQ s b = ⟨s.lines, s.edit ++ [b]⟩ := by
  obtain ⟨h8, h21, h4, h10, h23⟩ := hb
  have he : errQ s b = 0 := by
    unfold errQ
    rw [if_neg (fun q => by rcases q with q | q; exact h10 q; exact h4 q), if_pos ⟨h8, h21, h4, h10, h23⟩, if_neg (by omega)]
  unfold keyQ doQ
  rw [if_pos he, if_neg h10, if_neg h4, if_neg h8, if_neg h21, if_neg h23]
theorem type_plain {lines : List (List UInt8)} : ∀ {m e : List UInt8}, (∀ b ∈ m, plainQ b) → e.length + m.length ≤ 64 → typeQ ⟨lines, e⟩ m = ⟨lines, e ++ m⟩
  | [], e, _, _ => by simp [typeQ]
  | b :: r, e, h, hl => by
    rw [List.length_cons] at hl
    rw [typeQ, key_plain (h b List.mem_cons_self) (by simp only; omega), type_plain (fun x hx => h x (List.mem_cons_of_mem _ hx)) (by rw [List.length_append]; simp only [List.length_cons, List.length_nil]; omega), List.append_assoc]
    rfl
theorem key_erase (s : StQ) : keyQ s 8 = ⟨s.lines, s.edit.dropLast⟩ := by
  have he : errQ s 8 = 0 := by unfold errQ; rw [if_neg (by decide), if_neg (by decide)]
  unfold keyQ
  rw [if_pos he]
  rfl
theorem key_kill (s : StQ) : keyQ s 21 = ⟨s.lines, []⟩ := by
  have he : errQ s 21 = 0 := by unfold errQ; rw [if_neg (by decide), if_neg (by decide)]
  unfold keyQ
  rw [if_pos he]
  rfl
theorem key_word (s : StQ) : keyQ s 23 = ⟨s.lines, wordQ s.edit⟩ := by
  have he : errQ s 23 = 0 := by unfold errQ; rw [if_neg (by decide), if_neg (by decide)]
  unfold keyQ
  rw [if_pos he]
  rfl
theorem key_line {s : StQ} (h : s.lines.length < 400) : keyQ s 10 = ⟨s.lines ++ [s.edit ++ [10]], []⟩ := by
  have he : errQ s 10 = 0 := by unfold errQ; rw [if_pos (by decide), if_neg (by omega)]
  unfold keyQ
  rw [if_pos he]
  rfl
/-- TtyErase. -/
theorem erase_Q {keys more : List UInt8} {b : UInt8} (hb : plainQ b) (hr : (typeQ newQ keys).edit.length < 64) : typeQ newQ (keys ++ [b, 8] ++ more) = typeQ newQ (keys ++ more) := by
  have h1 : typeQ (typeQ newQ keys) [b, 8] = typeQ newQ keys := by
    rw [typeQ, key_plain hb hr, typeQ, key_erase, typeQ]
    simp
  rw [typeQ_append, typeQ_append, h1, typeQ_append]
theorem kill_Q {keys more : List UInt8} (he : (typeQ newQ keys).edit = []) (hm : more.length ≤ 64) (hp : ∀ b ∈ more, plainQ b) : typeQ newQ (keys ++ more ++ [21]) = typeQ newQ keys := by
  rw [typeQ_append, typeQ_append]
  obtain ⟨s, hs⟩ : ∃ s, typeQ newQ keys = s := ⟨_, rfl⟩
  rw [hs] at he ⊢
  obtain ⟨l, e⟩ := s
  simp only at he
  subst he
  rw [type_plain hp (by simp; omega), typeQ, key_kill, typeQ]
/-- TtyWord. -/
theorem cut_all {p : UInt8 → Bool} {a b : List UInt8} (hb : ∀ x ∈ b, p x = true) (ha : a = [] ∨ ∃ x, a.getLast? = some x ∧ p x = false) : cutQ p (a ++ b) = a := by
  unfold cutQ
  rw [List.reverse_append]
  have h1 : ∀ (l : List UInt8) (r : List UInt8), (∀ x ∈ l, p x = true) → (l ++ r).dropWhile p = r.dropWhile p := fun l r => by
    induction l with
    | nil => intro _; rfl
    | cons x l ih =>
      intro h
      rw [List.cons_append, List.dropWhile_cons_of_pos (h x List.mem_cons_self)]
      exact ih fun y hy => h y (List.mem_cons_of_mem _ hy)
  rw [h1 _ _ (fun x hx => hb x (List.mem_reverse.1 hx))]
  rcases ha with rfl | ⟨x, hx, hp⟩
  · rfl
  · obtain ⟨r, hr⟩ : ∃ r, a.reverse = x :: r := by
      have : a.reverse.head? = some x := by rw [List.head?_reverse]; exact hx
      cases hq : a.reverse with
      | nil => rw [hq] at this; cases this
      | cons y r =>
        rw [hq] at this
        exact ⟨r, by rw [List.head?_cons] at this; rw [Option.some.inj this]⟩
    rw [hr, List.dropWhile_cons_of_neg (by rw [hp]; simp), ← hr, List.reverse_reverse]
theorem word_back {e w : List UInt8} {n : Nat} (he : e = [] ∨ e.getLast? = some 32) (hw : ¬ w = []) (hn : ∀ b ∈ w, ¬ b = 32) : wordQ (e ++ w ++ List.replicate n 32) = e := by
  unfold wordQ
  have hl : ∃ x, (e ++ w).getLast? = some x ∧ decide (x = 32) = false := by
    have hm := List.getLast_mem hw
    refine ⟨w.getLast hw, ?_, by simpa using hn _ hm⟩
    rw [List.getLast?_append, List.getLast?_eq_some_getLast hw]
    rfl
  rw [cut_all (p := fun b => decide (b = 32)) (fun x hx => by rw [(List.mem_replicate.1 hx).2]; rfl) (Or.inr hl)]
  refine cut_all (fun x hx => by simpa using hn x hx) ?_
  rcases he with he | he
  · exact Or.inl he
  · exact Or.inr ⟨32, he, by decide⟩
theorem word_Q {keys w : List UInt8} {n : Nat} (he : (typeQ newQ keys).edit = [] ∨ (typeQ newQ keys).edit.getLast? = some 32) (hw : ¬ w = []) (hp : ∀ b ∈ w, plainQ b ∧ ¬ b = 32) (hl : (typeQ newQ keys).edit.length + w.length + n ≤ 64) : typeQ newQ (keys ++ w ++ List.replicate n 32 ++ [23]) = typeQ newQ keys := by
  rw [typeQ_append, typeQ_append, typeQ_append]
  obtain ⟨s, hs⟩ : ∃ s, typeQ newQ keys = s := ⟨_, rfl⟩
  rw [hs] at he hl ⊢
  obtain ⟨l, e⟩ := s
  simp only at he hl
  have h1 := type_plain (lines := l) (m := w) (e := e) (fun b hb => (hp b hb).1) (by omega)
  have h2 := type_plain (lines := l) (m := List.replicate n 32) (e := e ++ w) (fun b hb => by rw [(List.mem_replicate.1 hb).2]; decide) (by rw [List.length_append, List.length_replicate]; omega)
  rw [h1, h2, typeQ, key_word, typeQ]
  simp only
  rw [word_back he hw fun b hb => (hp b hb).2]
/-- Reading. -/
def gotQ (s : StQ) (m : Nat) : List UInt8 := (s.lines.head?.getD []).take m
def restQ (s : StQ) (m : Nat) : StQ :=
  match s.lines with
  | [] => s
  | l :: r => ⟨if m < l.length then l.drop m :: r else r, s.edit⟩
/-- TtyReads. -/
theorem reads_Q {l : List UInt8} {r : List (List UInt8)} {e : List UInt8} {a b : Nat} (ha : a < l.length) :
    gotQ ⟨l :: r, e⟩ a ++ gotQ (restQ ⟨l :: r, e⟩ a) b = gotQ ⟨l :: r, e⟩ (a + b) ∧ restQ (restQ ⟨l :: r, e⟩ a) b = restQ ⟨l :: r, e⟩ (a + b) := by
  have h1 : restQ ⟨l :: r, e⟩ a = ⟨l.drop a :: r, e⟩ := by
    simp only [restQ]
    rw [if_pos ha]
  rw [h1]
  constructor
  · simp only [gotQ, List.head?_cons, Option.getD_some]
    rw [List.take_add]
  · simp only [restQ]
    rw [List.length_drop, List.drop_drop]
    by_cases h : a + b < l.length
    · rw [if_pos (by omega), if_pos h]
    · rw [if_neg (by omega), if_neg h]
/-- TtyPlain. -/
def keysQ (ls : List (List UInt8)) : List UInt8 := ls.flatMap fun l => l ++ [10]
theorem lines_Q : ∀ {ls : List (List UInt8)} {had : List (List UInt8)}, (∀ l ∈ ls, l.length ≤ 64 ∧ ∀ b ∈ l, plainQ b) → had.length + ls.length ≤ 400 → typeQ ⟨had, []⟩ (keysQ ls) = ⟨had ++ ls.map fun l => l ++ [10], []⟩
  | [], had, _, _ => by simp [keysQ, typeQ]
  | l :: r, had, h, hn => by
    have h0 := h l List.mem_cons_self
    rw [List.length_cons] at hn
    have e : keysQ (l :: r) = (l ++ [10]) ++ keysQ r := by simp [keysQ]
    rw [e, typeQ_append, typeQ_append, type_plain h0.2 (by simp; omega), typeQ, key_line (by simp only; omega), typeQ, List.nil_append, lines_Q (fun x hx => h x (List.mem_cons_of_mem _ hx)) (by rw [List.length_append]; simp only [List.length_cons, List.length_nil]; omega), List.append_assoc]
    rfl
def flatQ (s : StQ) : List UInt8 := s.lines.flatten
/-- One read: it takes at least one byte off what is there, where no line is empty. -/
theorem read_one {s : StQ} {m : Nat} (hm : 0 < m) (hne : ∀ l ∈ s.lines, ¬ l = []) (h : ¬ s.lines = []) : gotQ s m ++ flatQ (restQ s m) = flatQ s ∧ (∀ l ∈ (restQ s m).lines, ¬ l = []) ∧ 0 < (gotQ s m).length ∧ (gotQ s m).length ≤ m ∧ (restQ s m).edit = s.edit := by
  obtain ⟨ls, e⟩ := s
  cases ls with
  | nil => exact absurd rfl h
  | cons l r =>
    have hl := hne l List.mem_cons_self
    have hlp : 0 < l.length := List.length_pos_iff.2 hl
    simp only [gotQ, restQ, flatQ, List.head?_cons, Option.getD_some, List.length_take]
    refine ⟨?_, fun x hx => ?_, by omega, by omega, trivial⟩
    · by_cases hml : m < l.length
      · rw [if_pos hml, List.flatten_cons, List.flatten_cons, ← List.append_assoc, List.take_append_drop]
      · rw [if_neg hml, List.flatten_cons, List.take_of_length_le (by omega)]
    · by_cases hml : m < l.length
      · rw [if_pos hml] at hx
        rcases List.mem_cons.1 hx with rfl | hx
        · intro q
          have := congrArg List.length q
          rw [List.length_drop] at this
          simp at this
          omega
        · exact hne x (List.mem_cons_of_mem _ hx)
      · rw [if_neg hml] at hx
        exact hne x (List.mem_cons_of_mem _ hx)
theorem flat_none {s : StQ} (hne : ∀ l ∈ s.lines, ¬ l = []) (h : flatQ s = []) : s.lines = [] := by
  unfold flatQ at h
  cases hs : s.lines with
  | nil => rfl
  | cons l r =>
    rw [hs, List.flatten_cons] at h
    exact absurd (List.append_eq_nil_iff.1 h).1 (hne l (by rw [hs]; exact List.mem_cons_self))
end Go.Proofs.YtomgifdnnfbpnaaDoor
