/- Package lift, in plain terms: what lies above and below the head, sorted; sweeps; how long a way can be. No program in sight. -/
import Derived.Test.YteabdbgllafafaaLiftP
namespace Go.Proofs.Yteabdbgllafafaa

/-- A row in order. -/
abbrev srtL (zs : List Int) : List Int := zs.mergeSort fun x y => decide (x ≤ y)
theorem srt_perm (l : List Int) : (srtL l).Perm l := List.mergeSort_perm l _
theorem srt_sorted (l : List Int) : (srtL l).Pairwise fun a b => a ≤ b := by
  have h := List.pairwise_mergeSort (le := fun x y : Int => decide (x ≤ y)) (by intro a b c; simp; omega) (by intro a b; simp; omega) l
  exact h.imp (fun q => by simpa using q)
theorem sorted_uniq : ∀ {l m : List Int}, l.Perm m → (l.Pairwise fun a b => a ≤ b) → (m.Pairwise fun a b => a ≤ b) → l = m
  | [], m, hp, _, _ => by rw [List.nil_perm.1 hp]
  | a :: l, [], hp, _, _ => absurd hp.length_eq (by simp)
  | a :: l, b :: m, hp, h1, h2 => by
    rw [List.pairwise_cons] at h1 h2
    have hb : b ∈ a :: l := hp.mem_iff.2 List.mem_cons_self
    have ha : a ∈ b :: m := hp.mem_iff.1 List.mem_cons_self
    have e : a = b := by
      rcases List.mem_cons.1 hb with q | q
      · exact q.symm
      · rcases List.mem_cons.1 ha with q2 | q2
        · exact q2
        · have := h1.1 b q
          have := h2.1 a q2
          omega
    subst e
    rw [sorted_uniq ((List.perm_cons a).1 hp) h1.2 h2.2]
theorem srt_eq {l m : List Int} (h : l.Perm m) : srtL l = srtL m := sorted_uniq ((srt_perm l).trans (h.trans (srt_perm m).symm)) (srt_sorted l) (srt_sorted m)
def upL (h : Int) (l : List Int) : List Int := l.filter fun b => decide (h ≤ b)
def dnL (h : Int) (l : List Int) : List Int := l.filter fun b => decide (b < h)
theorem updn_perm (h : Int) : ∀ l : List Int, (upL h l ++ dnL h l).Perm l
  | [] => by simp [upL, dnL]
  | b :: l => by
    have ih := updn_perm h l
    by_cases hb : h ≤ b
    · have e1 : upL h (b :: l) = b :: upL h l := by simp [upL, hb]
      have e2 : dnL h (b :: l) = dnL h l := by unfold dnL; rw [List.filter_cons_of_neg]; simp; omega
      rw [e1, e2]
      exact ih.cons b
    · have e1 : upL h (b :: l) = upL h l := by unfold upL; rw [List.filter_cons_of_neg]; simp; omega
      have e2 : dnL h (b :: l) = b :: dnL h l := by unfold dnL; rw [List.filter_cons_of_pos]; simp; omega
      rw [e1, e2]
      exact List.perm_middle.trans (ih.cons b)
theorem up_next {h : Int} {l : List Int} {k : Nat} {b : Int} (hk : l[k]? = some b) : upL h (l.take (k + 1)) = upL h (l.take k) ++ if h ≤ b then [b] else [] := by
  unfold upL
  rw [List.take_add_one, hk, List.filter_append]
  by_cases hb : h ≤ b
  · simp [hb]
  · simp [hb]
theorem dn_next {h : Int} {l : List Int} {k : Nat} {b : Int} (hk : l[k]? = some b) : dnL h (l.take (k + 1)) = dnL h (l.take k) ++ if h ≤ b then [] else [b] := by
  unfold dnL
  rw [List.take_add_one, hk, List.filter_append]
  by_cases hb : h ≤ b
  · have : ¬ b < h := by omega
    simp [hb, this]
  · have : b < h := by omega
    simp [hb, this]
/-- What is not below the head, rising; what is below, rising. -/
def upR (h : Int) (l : List Int) : List Int := srtL (upL h l)
def dnR (h : Int) (l : List Int) : List Int := srtL (dnL h l)
theorem parts_of (h : Int) (l : List Int) : PartsS h (upR h l) (dnR h l).reverse := by
  refine ⟨srt_sorted _, List.pairwise_reverse.2 (srt_sorted _), fun x hx => ?_, fun x hx => ?_⟩
  · have := (srt_perm (upL h l)).mem_iff.1 hx
    simpa using (List.mem_filter.1 this).2
  · have := (srt_perm (dnL h l)).mem_iff.1 (List.mem_reverse.1 hx)
    simpa using (List.mem_filter.1 this).2
theorem parts_perm (h : Int) (l : List Int) : (upR h l ++ (dnR h l).reverse).Perm l :=
  ((srt_perm _).append ((List.reverse_perm _).trans (srt_perm _))).trans (updn_perm h l)
/-- A sweep, and the nearer end first. -/
def sweepL (h : Int) (l : List Int) : List Int := upR h l ++ dnR h l
theorem sweep_perm (h : Int) (l : List Int) : (sweepL h l).Perm l := ((srt_perm _).append (srt_perm _)).trans (updn_perm h l)
theorem short_perm (h mx mn : Int) (l : List Int) : (shortS h mx mn (upR h l) (dnR h l).reverse).Perm l := by
  unfold shortS
  split
  · exact List.perm_append_comm.trans (parts_perm h l)
  · exact parts_perm h l
theorem ends_of {h mx mn : Int} {l : List Int} (h1 : mx ∈ l) (h2 : mn ∈ l) (h3 : ∀ x ∈ l, x ≤ mx) (h4 : ∀ x ∈ l, mn ≤ x) : EndsS mx mn (upR h l) (dnR h l).reverse := by
  have hp := parts_perm h l
  exact ⟨hp.mem_iff.2 h1, hp.mem_iff.2 h2, fun x hx => h3 x (hp.mem_iff.1 hx), fun x hx => h4 x (hp.mem_iff.1 hx)⟩
/-- LiftBest, LiftEnds as they stand: s = what Short answers. -/
theorem best_all {h mx mn : Int} {l o : List Int} (h1 : mx ∈ l) (h2 : mn ∈ l) (h3 : ∀ x ∈ l, x ≤ mx) (h4 : ∀ x ∈ l, mn ≤ x) (ho : l.Perm o) : wayS h (shortS h mx mn (upR h l) (dnR h l).reverse) ≤ wayS h o :=
  short_best (parts_of h l) (ends_of h1 h2 h3 h4) fun _ hx => ho.mem_iff.1 ((parts_perm h l).mem_iff.1 hx)
theorem ends_all {h mx mn : Int} {l : List Int} (h1 : mx ∈ l) (h2 : mn ∈ l) (h3 : ∀ x ∈ l, x ≤ mx) (h4 : ∀ x ∈ l, mn ≤ x) (hl : mn ≤ h) (hr : h ≤ mx) : wayS h (shortS h mx mn (upR h l) (dnR h l).reverse) = (h - mn) + (mx - h) + min (h - mn) (mx - h) :=
  short_ends (parts_of h l) (ends_of h1 h2 h3 h4) hl hr
/-- How often it falls. -/
def fallS : List Int → Nat
  | a :: b :: r => (if b < a then 1 else 0) + fallS (b :: r)
  | _ => 0
theorem fall_rise : ∀ {l : List Int}, (l.Pairwise fun a b => a ≤ b) → fallS l = 0
  | [], _ => rfl
  | [_], _ => rfl
  | a :: b :: r, h => by
    have h1 := (List.pairwise_cons.1 h).1 b List.mem_cons_self
    rw [fallS, if_neg (by omega), fall_rise (List.pairwise_cons.1 h).2]
theorem fall_append : ∀ {u d : List Int}, (u.Pairwise fun a b => a ≤ b) → (d.Pairwise fun a b => a ≤ b) → fallS (u ++ d) ≤ 1
  | [], d, _, hd => by rw [List.nil_append, fall_rise hd]; omega
  | [a], [], _, _ => by simp [fallS]
  | [a], b :: d, _, hd => by
    show fallS (a :: b :: d) ≤ 1
    rw [fallS, fall_rise hd]
    split <;> omega
  | a :: b :: u, d, hu, hd => by
    have h1 := (List.pairwise_cons.1 hu).1 b List.mem_cons_self
    have ih := fall_append (u := b :: u) (d := d) (List.pairwise_cons.1 hu).2 hd
    show fallS (a :: b :: (u ++ d)) ≤ 1
    rw [fallS, if_neg (by omega), Nat.zero_add]
    exact ih
theorem sweep_falls (h : Int) (l : List Int) : fallS (sweepL h l) ≤ 1 := fall_append (srt_sorted _) (srt_sorted _)
/-- .. counted one by one. -/
def fallI (l : List Int) (k : Nat) : Nat := fallS (l.take k)
theorem fall_one : ∀ {l : List Int} {k : Nat} {a b : Int}, l[k]? = some a → l[k + 1]? = some b → fallS (l.take (k + 2)) = fallS (l.take (k + 1)) + if b < a then 1 else 0
  | [], _, _, _, h, _ => by cases h
  | [_], 0, _, _, _, h => by cases h
  | [_], k + 1, _, _, h, _ => by cases h
  | x :: y :: r, 0, a, b, h1, h2 => by
    simp at h1 h2
    subst h1 h2
    simp [fallS]
  | x :: y :: r, k + 1, a, b, h1, h2 => by
    have ih := fall_one (l := y :: r) (k := k) (by simpa using h1) (by simpa using h2)
    rw [List.take_succ_cons, List.take_succ_cons] at ih ⊢
    simp only [List.take_succ_cons] at ih ⊢
    simp only [fallS]
    rw [ih]
    omega
/-- How long a way can be. -/
theorem way_le {N : Int} : ∀ {l : List Int} {h : Int}, 0 ≤ h → h ≤ N → (∀ x ∈ l, 0 ≤ x ∧ x ≤ N) → wayS h l ≤ l.length * N
  | [], h, _, _, _ => by simp [wayS]
  | b :: r, h, h0, h1, hl => by
    obtain ⟨b0, b1⟩ := hl b List.mem_cons_self
    have ih := way_le b0 b1 fun x hx => hl x (List.mem_cons_of_mem _ hx)
    have hd : dstS h b ≤ N := by unfold dstS; split <;> omega
    simp only [wayS, List.length_cons]
    rw [show ((r.length + 1 : Nat) : Int) * N = r.length * N + N by rw [Int.natCast_add, Int.add_mul]; simp]
    omega
theorem way_next {l : List Int} {k : Nat} {b h : Int} (hk : l[k]? = some b) : wayS h (l.take (k + 1)) = wayS h (l.take k) + dstS (endS h (l.take k)) b ∧ endS h (l.take (k + 1)) = b := by
  rw [List.take_add_one, hk, way_append]
  refine ⟨by simp [wayS], ?_⟩
  have : ∀ (a : List Int) (h : Int), endS h (a ++ [b]) = b := fun a => by
    induction a with
    | nil => intro h; rfl
    | cons x a ih => intro h; exact ih x
  exact this _ _
/-- What Wrong says. -/
def okL (l : List Int) : Prop := l.length ≤ 400 ∧ ∀ x ∈ l, 0 ≤ x ∧ x ≤ 1099511627776
instance (l : List Int) : Decidable (okL l) := by unfold okL; infer_instance
end Go.Proofs.Yteabdbgllafafaa
