/- Package lift, in plain terms: the nearer end first, as the project chooses it. No program in sight. -/
import Derived.Test.YteabdbgllafafaaLiftR
namespace Go.Proofs.Yteabdbgllafafaa

theorem end_last : ∀ (u : List Int) (h x : Int), u.getLast? = some x → endS h u = x
  | [], _, _, e => by cases e
  | [b], h, x, e => by simp at e; simp [endS, e]
  | b :: c :: r, h, x, e => by
    rw [List.getLast?_cons_cons] at e
    exact end_last (c :: r) b x e
/-- Down first: both sides have blocks, and the upper end is farther. -/
def downF (h : Int) (l : List Int) : Bool :=
  match (upR h l).getLast?, (dnR h l).head? with
  | some x, some y => decide (x - h > h - y)
  | _, _ => false
def shortL (h : Int) (l : List Int) : List Int := if downF h l = true then (dnR h l).reverse ++ upR h l else upR h l ++ (dnR h l).reverse
theorem short_len (h : Int) (l : List Int) : (shortL h l).length = l.length := by
  have h1 := (parts_perm h l).length_eq
  unfold shortL
  rw [List.length_append] at h1
  split
  · rw [List.length_append]; omega
  · rw [List.length_append]; omega
theorem sweep_len (h : Int) (l : List Int) : (sweepL h l).length = l.length := (sweep_perm h l).length_eq
theorem short_is {h mx mn : Int} {l : List Int} (h1 : mx ∈ l) (h2 : mn ∈ l) (h3 : ∀ x ∈ l, x ≤ mx) (h4 : ∀ x ∈ l, mn ≤ x) : shortL h l = shortS h mx mn (upR h l) (dnR h l).reverse := by
  have hp := parts_of h l
  have he := ends_of (h := h) h1 h2 h3 h4
  unfold shortL shortS
  by_cases hd : dnR h l = []
  · rw [hd]
    simp
  · by_cases hu : upR h l = []
    · rw [hu]
      simp
    · obtain ⟨x, hx⟩ : ∃ x, (upR h l).getLast? = some x := by
        cases e : (upR h l).getLast? with
        | none => exact absurd (List.getLast?_eq_none_iff.1 e) hu
        | some x => exact ⟨x, rfl⟩
      obtain ⟨y, hy⟩ : ∃ y, (dnR h l).head? = some y := by
        cases e : (dnR h l).head? with
        | none => exact absurd (List.head?_eq_none_iff.1 e) hd
        | some x => exact ⟨x, rfl⟩
      have e1 : x = mx := by rw [← end_last _ h x hx]; exact end_up hp he hu
      have e2 : y = mn := by
        rw [← end_last (dnR h l).reverse h y (by rw [List.getLast?_reverse]; exact hy)]
        exact end_down hp he (by simpa using hd)
      have e3 : downF h l = decide (x - h > h - y) := by unfold downF; rw [hx, hy]
      rw [e3, e1, e2]
      by_cases g : mx - h > h - mn
      · rw [decide_eq_true g, if_pos rfl, if_pos g]
      · rw [decide_eq_false g, if_neg (by simp), if_neg g]
theorem short_is_perm (h : Int) (l : List Int) : (shortL h l).Perm l := by
  unfold shortL
  split
  · exact List.perm_append_comm.trans (parts_perm h l)
  · exact parts_perm h l
/-- The greatest and the least. -/
theorem ends_there : ∀ {l : List Int}, ¬ l = [] → ∃ mx mn, mx ∈ l ∧ mn ∈ l ∧ (∀ x ∈ l, x ≤ mx) ∧ ∀ x ∈ l, mn ≤ x
  | [], h => absurd rfl h
  | [a], _ => ⟨a, a, by simp, by simp, by simp, by simp⟩
  | a :: b :: r, _ => by
    obtain ⟨mx, mn, h1, h2, h3, h4⟩ := ends_there (l := b :: r) (by simp)
    refine ⟨max a mx, min a mn, ?_, ?_, fun x hx => ?_, fun x hx => ?_⟩
    · by_cases g : a ≤ mx
      · rw [Int.max_eq_right g]; exact List.mem_cons_of_mem _ h1
      · rw [Int.max_eq_left (by omega)]; exact List.mem_cons_self
    · by_cases g : a ≤ mn
      · rw [Int.min_eq_left g]; exact List.mem_cons_self
      · rw [Int.min_eq_right (by omega)]; exact List.mem_cons_of_mem _ h2
    · rcases List.mem_cons.1 hx with rfl | hx
      · omega
      · have := h3 x hx; omega
    · rcases List.mem_cons.1 hx with rfl | hx
      · omega
      · have := h4 x hx; omega
/-- LiftBest, LiftEnds for the project's choice. -/
theorem short_least {h : Int} {l o : List Int} (ho : l.Perm o) : wayS h (shortL h l) ≤ wayS h o := by
  by_cases hl : l = []
  · subst hl
    rw [List.nil_perm.1 ho, List.eq_nil_of_length_eq_zero (short_len h [])]
    exact Int.le_refl _
  · obtain ⟨mx, mn, h1, h2, h3, h4⟩ := ends_there hl
    rw [short_is h1 h2 h3 h4]
    exact best_all h1 h2 h3 h4 ho
end Go.Proofs.Yteabdbgllafafaa
