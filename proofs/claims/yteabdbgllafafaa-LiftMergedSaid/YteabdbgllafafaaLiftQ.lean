/- Package lift, in plain terms: spans merged one by one (as corebellref.SMerge does it), then sorted. No program in sight. -/
import Derived.Test.YteabdbgllafafaaLiftP
namespace Go.Proofs.Yteabdbgllafafaa

/-- Apart: neither meets the other. -/
def apS (a b : SpS) : Prop := a.2 < b.1 ∨ b.2 < a.1
instance (a b : SpS) : Decidable (apS a b) := by unfold apS; infer_instance
theorem apS_symm {a b : SpS} (h : apS a b) : apS b a := h.symm
def hullS (s x : SpS) : SpS := (min s.1 x.1, max s.2 x.2)
/-- One more of those that are there: it stays, or it becomes one with s. -/
def addF (p : List SpS × SpS) (x : SpS) : List SpS × SpS := if apS x p.2 then (p.1 ++ [x], p.2) else (p.1, hullS p.2 x)
def addS (s : SpS) (out : List SpS) : List SpS × SpS := out.foldl addF ([], s)
theorem addS_next {s : SpS} {out : List SpS} {k : Nat} {x : SpS} (h : out[k]? = some x) : addS s (out.take (k + 1)) = addF (addS s (out.take k)) x := by
  unfold addS
  rw [List.take_add_one, h, List.foldl_append]
  rfl
def putM (out : List SpS) (s : SpS) : List SpS := (addS s out).1 ++ [(addS s out).2]
def mergeS (l : List SpS) : List SpS := l.foldl putM []
theorem merge_next {l : List SpS} {k : Nat} {s : SpS} (h : l[k]? = some s) : mergeS (l.take (k + 1)) = putM (mergeS (l.take k)) s := by
  unfold mergeS
  rw [List.take_add_one, h, List.foldl_append]
  rfl
/-- What holds of spans: blocks between 0 and 2^40, one at least. -/
def okS (s : SpS) : Prop := 0 ≤ s.1 ∧ s.1 < s.2 ∧ s.2 ≤ 1099511627776
instance (s : SpS) : Decidable (okS s) := by unfold okS; infer_instance
theorem hull_ok {s x : SpS} (h1 : okS s) (h2 : okS x) : okS (hullS s x) := by
  unfold okS hullS at *
  simp only
  omega
theorem hull_cov {s x : SpS} (h : ¬ apS x s) (b : Int) : ((hullS s x).1 ≤ b ∧ b < (hullS s x).2) ↔ (s.1 ≤ b ∧ b < s.2) ∨ (x.1 ≤ b ∧ b < x.2) := by
  unfold apS at h
  unfold hullS
  simp only
  omega
theorem hull_ap {s x y : SpS} (h : ¬ apS x s) (h3 : okS y) (hs : apS y s) (hx : apS y x) : apS y (hullS s x) := by
  unfold apS at *
  unfold okS at h3
  unfold hullS
  simp only
  omega
structure InvM (p : List SpS × SpS) (r : List SpS) : Prop where
  ok : ∀ s ∈ p.1 ++ r, okS s
  oks : okS p.2
  ap : (p.1 ++ r).Pairwise apS
  aps : ∀ x ∈ p.1, apS x p.2
theorem inv_step {p : List SpS × SpS} {x : SpS} {r : List SpS} (h : InvM p (x :: r)) : InvM (addF p x) r := by
  unfold addF
  by_cases hx : apS x p.2
  · rw [if_pos hx]
    refine ⟨?_, h.oks, ?_, ?_⟩
    · simp only [List.append_assoc, List.singleton_append]
      exact h.ok
    · simp only [List.append_assoc, List.singleton_append]
      exact h.ap
    · intro y hy
      rcases List.mem_append.1 hy with hy | hy
      · exact h.aps y hy
      · rw [List.mem_singleton] at hy
        subst hy
        exact hx
  · rw [if_neg hx]
    have hxo : okS x := h.ok x (List.mem_append_right _ List.mem_cons_self)
    have hsub : (p.1 ++ r).Sublist (p.1 ++ x :: r) := List.Sublist.append_left (List.sublist_cons_self x r) p.1
    refine ⟨fun s hs => h.ok s (hsub.subset hs), hull_ok h.oks hxo, h.ap.sublist hsub, fun y hy => ?_⟩
    have hyx : apS y x := (List.pairwise_append.1 h.ap).2.2 y hy x List.mem_cons_self
    exact hull_ap hx (h.ok y (List.mem_append_left _ hy)) (h.aps y hy) hyx
theorem cov_step (p : List SpS × SpS) (x : SpS) (r : List SpS) (b : Int) : (covS ((addF p x).1 ++ r) b ∨ ((addF p x).2.1 ≤ b ∧ b < (addF p x).2.2)) ↔ (covS (p.1 ++ x :: r) b ∨ (p.2.1 ≤ b ∧ b < p.2.2)) := by
  have hcov : ∀ (a c : List SpS), covS (a ++ c) b ↔ covS a b ∨ covS c b := fun a c => by
    constructor
    · rintro ⟨s, hs, hb⟩
      rcases List.mem_append.1 hs with hs | hs
      · exact Or.inl ⟨s, hs, hb⟩
      · exact Or.inr ⟨s, hs, hb⟩
    · rintro (⟨s, hs, hb⟩ | ⟨s, hs, hb⟩)
      · exact ⟨s, List.mem_append_left _ hs, hb⟩
      · exact ⟨s, List.mem_append_right _ hs, hb⟩
  unfold addF
  by_cases hx : apS x p.2
  · rw [if_pos hx]
    simp only [List.append_assoc, List.singleton_append]
  · rw [if_neg hx]
    rw [hull_cov hx b, hcov, hcov, cov_cons]
    constructor
    · rintro ((h | h) | (h | h))
      · exact Or.inl (Or.inl h)
      · exact Or.inl (Or.inr (Or.inr h))
      · exact Or.inr h
      · exact Or.inl (Or.inr (Or.inl h))
    · rintro ((h | (h | h)) | h)
      · exact Or.inl (Or.inl h)
      · exact Or.inr (Or.inr h)
      · exact Or.inl (Or.inr h)
      · exact Or.inr (Or.inl h)
theorem inv_fold : ∀ (r : List SpS) (p : List SpS × SpS), InvM p r → InvM (r.foldl addF p) [] ∧ ∀ b, (covS (r.foldl addF p).1 b ∨ ((r.foldl addF p).2.1 ≤ b ∧ b < (r.foldl addF p).2.2)) ↔ (covS (p.1 ++ r) b ∨ (p.2.1 ≤ b ∧ b < p.2.2))
  | [], p, h => ⟨h, fun b => by simp⟩
  | x :: r, p, h => by
    obtain ⟨h1, h2⟩ := inv_fold r (addF p x) (inv_step h)
    exact ⟨h1, fun b => (h2 b).trans (cov_step p x r b)⟩
/-- Spans that are apart, in whatever order. -/
structure LooseS (l : List SpS) : Prop where
  ok : ∀ s ∈ l, okS s
  ap : l.Pairwise apS
theorem put_loose {out : List SpS} {s : SpS} (h : LooseS out) (hs : okS s) : LooseS (putM out s) ∧ ∀ b, covS (putM out s) b ↔ covS out b ∨ (s.1 ≤ b ∧ b < s.2) := by
  obtain ⟨h1, h2⟩ := inv_fold out ([], s) ⟨h.ok, hs, h.ap, fun x hx => by cases hx⟩
  unfold putM addS
  refine ⟨⟨fun x hx => ?_, ?_⟩, fun b => ?_⟩
  · rcases List.mem_append.1 hx with hx | hx
    · exact h1.ok x (by simpa using hx)
    · rw [List.mem_singleton] at hx
      subst hx
      exact h1.oks
  · refine List.pairwise_append.2 ⟨by have := h1.ap; simpa using this, List.pairwise_singleton _ _, fun x hx y hy => ?_⟩
    rw [List.mem_singleton] at hy
    subst hy
    exact h1.aps x hx
  · have h3 := h2 b
    rw [List.nil_append] at h3
    rw [← h3]
    constructor
    · rintro ⟨x, hx, hb⟩
      rcases List.mem_append.1 hx with hx | hx
      · exact Or.inl ⟨x, hx, hb⟩
      · rw [List.mem_singleton] at hx
        subst hx
        exact Or.inr hb
    · rintro (⟨x, hx, hb⟩ | hb)
      · exact ⟨x, List.mem_append_left _ hx, hb⟩
      · exact ⟨_, List.mem_append_right _ (List.mem_singleton.2 rfl), hb⟩
theorem merge_fold : ∀ (l out : List SpS), LooseS out → (∀ s ∈ l, okS s) → LooseS (l.foldl putM out) ∧ ∀ b, covS (l.foldl putM out) b ↔ covS out b ∨ covS l b
  | [], out, h, _ => ⟨h, fun b => ⟨fun q => Or.inl q, fun q => q.elim id (fun ⟨_, hs, _⟩ => by cases hs)⟩⟩
  | s :: l, out, h, hl => by
    obtain ⟨h1, h2⟩ := put_loose h (hl s List.mem_cons_self)
    obtain ⟨h3, h4⟩ := merge_fold l (putM out s) h1 fun x hx => hl x (List.mem_cons_of_mem _ hx)
    refine ⟨h3, fun b => ?_⟩
    rw [List.foldl_cons, h4 b, h2 b, cov_cons, or_assoc]
theorem merge_loose {l : List SpS} (hl : ∀ s ∈ l, okS s) : LooseS (mergeS l) ∧ ∀ b, covS (mergeS l) b ↔ covS l b := by
  obtain ⟨h1, h2⟩ := merge_fold l [] ⟨(fun _ h => by cases h), List.Pairwise.nil⟩ hl
  exact ⟨h1, fun b => (h2 b).trans ⟨fun q => q.elim (fun ⟨_, hs, _⟩ => by cases hs) id, Or.inr⟩⟩
theorem cov_perm {l m : List SpS} (h : l.Perm m) (b : Int) : covS l b ↔ covS m b :=
  ⟨fun ⟨s, hs, hb⟩ => ⟨s, h.mem_iff.1 hs, hb⟩, fun ⟨s, hs, hb⟩ => ⟨s, h.mem_iff.2 hs, hb⟩⟩
/-- Sorted, loose spans are apart. -/
theorem loose_sorted {l m : List SpS} (h : LooseS l) (hp : l.Perm m) (hs : m.Pairwise fun a b => a.1 ≤ b.1) : ApartS m := by
  have h1 : m.Pairwise apS := (hp.pairwise_iff (fun h => apS_symm h)).1 h.ap
  refine ⟨fun s hs' => (h.ok s (hp.mem_iff.2 hs')).2.1, ?_⟩
  refine (h1.and hs).imp_of_mem ?_
  intro a b ha hb ⟨q1, q2⟩
  have k1 := h.ok a (hp.mem_iff.2 ha)
  have k2 := h.ok b (hp.mem_iff.2 hb)
  unfold apS at q1
  unfold okS at k1 k2
  omega
/-- What is merged: apart, of the same blocks: there is but one. -/
theorem merged_is {l m : List SpS} (hl : ∀ s ∈ l, okS s) (hp : (mergeS l).Perm m) (hs : m.Pairwise fun a b => a.1 ≤ b.1) : ApartS m ∧ (∀ b, covS l b ↔ covS m b) ∧ ∀ s ∈ m, okS s := by
  obtain ⟨h1, h2⟩ := merge_loose hl
  exact ⟨loose_sorted h1 hp hs, fun b => (h2 b).symm.trans (cov_perm hp b), fun s hs => h1.ok s (hp.mem_iff.2 hs)⟩
end Go.Proofs.Yteabdbgllafafaa
