/- Package lift, in plain terms: spans sorted, then joined one after another, as the project does it; what is merged, in order. No program in sight. -/
import Derived.Test.YteabdbgllafafaaLiftQ
namespace Go.Proofs.Yteabdbgllafafaa

/-- What is merged, in order. -/
def canL (l : List SpS) : List SpS := (mergeS l).mergeSort fun a b => decide (a.1 ≤ b.1)
theorem can_is {l : List SpS} (hl : ∀ s ∈ l, okS s) : ApartS (canL l) ∧ (∀ b, covS l b ↔ covS (canL l) b) ∧ ∀ s ∈ canL l, okS s := by
  refine merged_is hl (List.mergeSort_perm _ _).symm ?_
  have h := List.pairwise_mergeSort (le := fun a b : SpS => decide (a.1 ≤ b.1)) (by intro a b c; simp; omega) (by intro a b; simp; omega) (mergeS l)
  exact h.imp (fun q => by simpa using q)
theorem can_eq {l m : List SpS} (hl : ∀ s ∈ l, okS s) (hm : ApartS m) (hc : ∀ b, covS l b ↔ covS m b) : m = canL l :=
  apart_ext hm (can_is hl).1 fun b => (hc b).symm.trans ((can_is hl).2.1 b)
/-- The reference's answer: merged, then sorted in whatever way. -/
theorem can_ref {l m : List SpS} (hl : ∀ s ∈ l, okS s) (hp : (mergeS l).Perm m) (hs : m.Pairwise fun a b => a.1 ≤ b.1) : m = canL l := by
  obtain ⟨h1, h2, _⟩ := merged_is hl hp hs
  exact can_eq hl h1 h2
/-- One more, in order. -/
def joinP (out : List SpS) (s : SpS) : List SpS :=
  match out.getLast? with
  | some t => if s.1 ≤ t.2 then out.dropLast ++ [(t.1, max t.2 s.2)] else out ++ [s]
  | none => out ++ [s]
def joinL (l : List SpS) : List SpS := l.foldl joinP []
theorem join_next {l : List SpS} {k : Nat} {s : SpS} (h : l[k]? = some s) : joinL (l.take (k + 1)) = joinP (joinL (l.take k)) s := by
  unfold joinL
  rw [List.take_add_one, h, List.foldl_append]
  rfl
theorem joinP_nil (s : SpS) : joinP [] s = [s] := rfl
theorem joinP_end (i : List SpS) (t s : SpS) : joinP (i ++ [t]) s = if s.1 ≤ t.2 then i ++ [(t.1, max t.2 s.2)] else i ++ [t] ++ [s] := by
  unfold joinP
  simp
theorem list_end : ∀ l : List SpS, l = [] ∨ ∃ i t, l = i ++ [t] := fun l => by
  by_cases h : l = []
  · exact Or.inl h
  · exact Or.inr ⟨l.dropLast, l.getLast h, (List.dropLast_concat_getLast h).symm⟩
theorem joinP_len (out : List SpS) (s : SpS) : (joinP out s).length ≤ out.length + 1 := by
  rcases list_end out with rfl | ⟨i, t, rfl⟩
  · rw [joinP_nil]; simp
  · rw [joinP_end]
    split <;> simp
theorem joinF_len : ∀ (l out : List SpS), (l.foldl joinP out).length ≤ out.length + l.length
  | [], out => by simp
  | s :: r, out => by
    have h1 := joinF_len r (joinP out s)
    have h2 := joinP_len out s
    rw [List.foldl_cons, List.length_cons]
    omega
theorem join_len (l : List SpS) : (joinL l).length ≤ l.length := by
  have := joinF_len l []
  simpa [joinL] using this
theorem cov_app {a c : List SpS} {b : Int} : covS (a ++ c) b ↔ covS a b ∨ covS c b := by
  constructor
  · rintro ⟨s, hs, hb⟩
    rcases List.mem_append.1 hs with hs | hs
    · exact Or.inl ⟨s, hs, hb⟩
    · exact Or.inr ⟨s, hs, hb⟩
  · rintro (⟨s, hs, hb⟩ | ⟨s, hs, hb⟩)
    · exact ⟨s, List.mem_append_left _ hs, hb⟩
    · exact ⟨s, List.mem_append_right _ hs, hb⟩
theorem cov_one {s : SpS} {b : Int} : covS [s] b ↔ (s.1 ≤ b ∧ b < s.2) := by
  rw [cov_cons]
  exact ⟨fun h => h.elim id (fun ⟨_, hs, _⟩ => by cases hs), Or.inl⟩
structure InvJ (out r : List SpS) : Prop where
  ap : ApartS out
  ok : ∀ s ∈ out, okS s
  le : ∀ t ∈ out, ∀ s ∈ r, t.1 ≤ s.1
theorem invJ_step {out r : List SpS} {s : SpS} (h : InvJ out (s :: r)) (hs : okS s) (hr : ∀ x ∈ r, s.1 ≤ x.1) : InvJ (joinP out s) r ∧ ∀ b, covS (joinP out s) b ↔ covS out b ∨ (s.1 ≤ b ∧ b < s.2) := by
  rcases list_end out with rfl | ⟨i, t, rfl⟩
  · rw [joinP_nil]
    refine ⟨⟨⟨fun x hx => ?_, List.pairwise_singleton _ _⟩, fun x hx => ?_, fun t ht x hx => ?_⟩, fun b => ?_⟩
    · rw [List.mem_singleton] at hx; rw [hx]; exact hs.2.1
    · rw [List.mem_singleton] at hx; rw [hx]; exact hs
    · rw [List.mem_singleton] at ht; rw [ht]; exact hr x hx
    · rw [cov_one]
      exact ⟨Or.inr, fun q => q.elim (fun ⟨_, h, _⟩ => by cases h) id⟩
  · have hti : t ∈ i ++ [t] := List.mem_append_right _ (List.mem_singleton.2 rfl)
    have hts := h.le t hti s List.mem_cons_self
    have hto := h.ok t hti
    obtain ⟨p1, _, p3⟩ := List.pairwise_append.1 h.ap.apart
    have p4 : ∀ x ∈ i, x.2 < t.1 := fun x hx => p3 x hx t (List.mem_singleton.2 rfl)
    rw [joinP_end]
    unfold okS at hs hto
    by_cases hg : s.1 ≤ t.2
    · rw [if_pos hg]
      refine ⟨⟨⟨fun x hx => ?_, ?_⟩, fun x hx => ?_, fun x hx y hy => ?_⟩, fun b => ?_⟩
      · rcases List.mem_append.1 hx with hx | hx
        · exact h.ap.some x (List.mem_append_left _ hx)
        · rw [List.mem_singleton] at hx; rw [hx]; simp only; omega
      · refine List.pairwise_append.2 ⟨p1, List.pairwise_singleton _ _, fun x hx y hy => ?_⟩
        rw [List.mem_singleton] at hy
        rw [hy]
        exact p4 x hx
      · rcases List.mem_append.1 hx with hx | hx
        · exact h.ok x (List.mem_append_left _ hx)
        · rw [List.mem_singleton] at hx; rw [hx]; unfold okS; simp only; omega
      · rcases List.mem_append.1 hx with hx | hx
        · exact h.le x (List.mem_append_left _ hx) y (List.mem_cons_of_mem _ hy)
        · rw [List.mem_singleton] at hx; rw [hx]; exact h.le t hti y (List.mem_cons_of_mem _ hy)
      · rw [cov_app, cov_app, cov_one, cov_one, or_assoc]
        simp only
        constructor
        · rintro (q | q)
          · exact Or.inl q
          · by_cases g2 : b < t.2
            · exact Or.inr (Or.inl ⟨q.1, g2⟩)
            · exact Or.inr (Or.inr ⟨by omega, by omega⟩)
        · rintro (q | q | q)
          · exact Or.inl q
          · exact Or.inr ⟨q.1, by omega⟩
          · exact Or.inr ⟨by omega, by omega⟩
    · rw [if_neg hg]
      refine ⟨⟨⟨fun x hx => ?_, ?_⟩, fun x hx => ?_, fun x hx y hy => ?_⟩, fun b => ?_⟩
      · rcases List.mem_append.1 hx with hx | hx
        · exact h.ap.some x hx
        · rw [List.mem_singleton] at hx; rw [hx]; exact hs.2.1
      · refine List.pairwise_append.2 ⟨h.ap.apart, List.pairwise_singleton _ _, fun x hx y hy => ?_⟩
        rw [List.mem_singleton] at hy
        rw [hy]
        rcases List.mem_append.1 hx with hx | hx
        · have := p4 x hx; omega
        · rw [List.mem_singleton] at hx; rw [hx]; omega
      · rcases List.mem_append.1 hx with hx | hx
        · exact h.ok x hx
        · rw [List.mem_singleton] at hx; rw [hx]; exact hs
      · rcases List.mem_append.1 hx with hx | hx
        · exact h.le x hx y (List.mem_cons_of_mem _ hy)
        · rw [List.mem_singleton] at hx; rw [hx]; exact hr y hy
      · rw [cov_app, cov_one]
theorem joinF_inv : ∀ (l out : List SpS), InvJ out l → (∀ s ∈ l, okS s) → (l.Pairwise fun a b => a.1 ≤ b.1) → InvJ (l.foldl joinP out) [] ∧ ∀ b, covS (l.foldl joinP out) b ↔ covS out b ∨ covS l b
  | [], out, h, _, _ => ⟨h, fun b => ⟨Or.inl, fun q => q.elim id (fun ⟨_, hs, _⟩ => by cases hs)⟩⟩
  | s :: r, out, h, hok, hs => by
    rw [List.pairwise_cons] at hs
    obtain ⟨h1, h2⟩ := invJ_step h (hok s List.mem_cons_self) hs.1
    obtain ⟨h3, h4⟩ := joinF_inv r (joinP out s) h1 (fun x hx => hok x (List.mem_cons_of_mem _ hx)) hs.2
    refine ⟨h3, fun b => ?_⟩
    rw [List.foldl_cons, h4 b, h2 b, cov_cons, or_assoc]
/-- The project's answer: sorted in whatever way, then joined. -/
theorem can_join {l m : List SpS} (hl : ∀ s ∈ l, okS s) (hp : l.Perm m) (hs : m.Pairwise fun a b => a.1 ≤ b.1) : joinL m = canL l := by
  obtain ⟨h1, h2⟩ := joinF_inv m [] ⟨⟨(fun _ h => by cases h), List.Pairwise.nil⟩, (fun _ h => by cases h), (fun _ h => by cases h)⟩ (fun s h => hl s (hp.mem_iff.2 h)) hs
  refine can_eq hl h1.ap fun b => ?_
  rw [cov_perm hp b]
  show _ ↔ covS (m.foldl joinP []) b
  rw [h2 b]
  exact ⟨Or.inr, fun q => q.elim (fun ⟨_, h, _⟩ => by cases h) id⟩
/-- No longer than what came. -/
theorem can_len {l : List SpS} (hl : ∀ s ∈ l, okS s) : (canL l).length ≤ l.length := apart_least (can_is hl).1 (can_is hl).2.1
/-- In whatever order they came. -/
theorem can_perm {l m : List SpS} (hl : ∀ s ∈ l, okS s) (hp : l.Perm m) : canL m = canL l :=
  can_eq hl (can_is fun s h => hl s (hp.mem_iff.2 h)).1 fun b => (cov_perm hp b).trans ((can_is fun s h => hl s (hp.mem_iff.2 h)).2.1 b)
/-- Merged again. -/
theorem can_can {l : List SpS} (hl : ∀ s ∈ l, okS s) : canL (canL l) = canL l :=
  (can_eq (can_is hl).2.2 (can_is hl).1 fun _ => Iff.rfl).symm
/-- What may be merged. -/
def okM (l : List SpS) : Prop := l.length ≤ 400 ∧ ∀ s ∈ l, okS s
instance (l : List SpS) : Decidable (okM l) := by unfold okM; infer_instance
def errM (l : List SpS) : Int := if okM l then 0 else 2
def mrgV (l : List SpS) : List SpS := if okM l then canL l else []
theorem errM_cases (l : List SpS) : (errM l = 0 ∧ mrgV l = canL l ∧ okM l) ∨ (errM l = 2 ∧ mrgV l = [] ∧ ¬ okM l) := by
  unfold errM mrgV
  by_cases q : okM l
  · exact Or.inl ⟨if_pos q, if_pos q, q⟩
  · exact Or.inr ⟨if_neg q, if_neg q, q⟩
end Go.Proofs.Yteabdbgllafafaa
