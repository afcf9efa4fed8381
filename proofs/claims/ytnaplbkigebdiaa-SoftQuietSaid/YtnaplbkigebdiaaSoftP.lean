/- Plain facts on software interrupts: rounds, what runs, what is raised meanwhile. No program in sight. -/
import Derived.Test.YtnaplbkigebdiaaSprM
namespace Go.Proofs.Ytnaplbkigebdiaa

/-- What is pending in this round, what for the next one, what ran. -/
structure SfT where
  now : Nat → Bool
  next : Nat → Bool
  ran : List Nat
/-- The first k numbers of a round; R j s: behind j runs s is raised. -/
def scanJ (R : Nat → Nat → Bool) (st : SfT) : Nat → SfT
  | 0 => st
  | k + 1 => if st.now k = true then ⟨(scanJ R st k).now, fun x => (scanJ R st k).next x || R ((scanJ R st k).ran.length + 1) x, (scanJ R st k).ran ++ [k]⟩ else scanJ R st k
def roundJ (R : Nat → Nat → Bool) (st : SfT) : SfT := ⟨(scanJ R st 8).next, fun _ => false, (scanJ R st 8).ran⟩
def rdsJ (R : Nat → Nat → Bool) (st : SfT) : Nat → SfT
  | 0 => st
  | n + 1 => roundJ R (rdsJ R st n)
def startJ (R : Nat → Nat → Bool) (pend : Nat → Bool) : SfT := ⟨fun s => pend s || R 0 s, fun _ => false, []⟩
def EmptyJ (f : Nat → Bool) : Prop := ∀ s, s < 8 → f s = false
section
variable {R : Nat → Nat → Bool} {st : SfT}
theorem scan_yes {k : Nat} (h : st.now k = true) : scanJ R st (k + 1) = ⟨(scanJ R st k).now, fun x => (scanJ R st k).next x || R ((scanJ R st k).ran.length + 1) x, (scanJ R st k).ran ++ [k]⟩ := if_pos h
theorem scan_no {k : Nat} (h : st.now k = false) : scanJ R st (k + 1) = scanJ R st k := if_neg (by rw [h]; decide)
theorem scan_now : ∀ k, (scanJ R st k).now = st.now
  | 0 => rfl
  | k + 1 => by
    cases h : st.now k with
    | true => rw [scan_yes h]; exact scan_now k
    | false => rw [scan_no h]; exact scan_now k
theorem scan_pre : ∀ k, st.ran <+: (scanJ R st k).ran
  | 0 => List.prefix_refl _
  | k + 1 => by
    cases h : st.now k with
    | true => rw [scan_yes h]; exact (scan_pre k).trans (List.prefix_append _ _)
    | false => rw [scan_no h]; exact scan_pre k
theorem rds_pre : ∀ n, st.ran <+: (rdsJ R st n).ran
  | 0 => List.prefix_refl _
  | n + 1 => (rds_pre n).trans (scan_pre 8)
theorem rds_add (n : Nat) : ∀ m, rdsJ R st (n + m) = rdsJ R (rdsJ R st n) m
  | 0 => rfl
  | m + 1 => by show roundJ R (rdsJ R st (n + m)) = _; rw [rds_add n m]; rfl
theorem rds_mono {n m : Nat} (h : n ≤ m) : (rdsJ R st n).ran <+: (rdsJ R st m).ran := by
  obtain ⟨d, rfl⟩ : ∃ d, m = n + d := ⟨m - n, by omega⟩
  rw [rds_add]; exact rds_pre d
theorem rds_next (h : st.next = fun _ => false) : ∀ n, (rdsJ R st n).next = fun _ => false
  | 0 => h
  | _ + 1 => rfl
/-- With nothing pending nothing runs. -/
theorem scan_empty (h : EmptyJ st.now) : ∀ k, k ≤ 8 → scanJ R st k = st
  | 0, _ => rfl
  | k + 1, hk => by rw [scan_no (h k (by omega)), scan_empty h k (by omega)]
theorem round_empty (h : EmptyJ st.now) (hn : st.next = fun _ => false) : (roundJ R st).ran = st.ran ∧ EmptyJ (roundJ R st).now ∧ (roundJ R st).next = fun _ => false := by
  have e := scan_empty (R := R) h 8 (Nat.le_refl _)
  refine ⟨by show (scanJ R st 8).ran = _; rw [e], fun s _ => ?_, rfl⟩
  show (scanJ R st 8).next s = false
  rw [e, hn]
theorem rds_empty (h : EmptyJ st.now) (hn : st.next = fun _ => false) : ∀ n, (rdsJ R st n).ran = st.ran ∧ EmptyJ (rdsJ R st n).now
  | 0 => ⟨rfl, h⟩
  | n + 1 => by
    obtain ⟨h1, h2⟩ := rds_empty h hn n
    obtain ⟨h3, h4, _⟩ := round_empty (R := R) h2 (rds_next hn n)
    exact ⟨h3.trans h1, h4⟩
/-- Once through, always through. -/
theorem rds_done (hn : st.next = fun _ => false) {n m : Nat} (h : EmptyJ (rdsJ R st n).now) (hm : n ≤ m) : (rdsJ R st m).ran = (rdsJ R st n).ran := by
  obtain ⟨d, rfl⟩ : ∃ d, m = n + d := ⟨m - n, by omega⟩
  rw [rds_add]
  exact (rds_empty h (rds_next hn n) d).1
/-- A round in which something is pending runs something. -/
theorem scan_len {s : Nat} (h : st.now s = true) : ∀ k, s < k → st.ran.length < (scanJ R st k).ran.length
  | k + 1, hk => by
    have h1 := (scan_pre (R := R) (st := st) k).length_le
    cases g : st.now k with
    | true => rw [scan_yes g]; simp only [List.length_append, List.length_singleton]; omega
    | false =>
      have : ¬ s = k := by rintro rfl; rw [h] at g; cases g
      rw [scan_no g]; exact scan_len h k (by omega)
end
/-- How often s was raised, behind up to n runs. -/
def rsd (R : Nat → Nat → Bool) (s n : Nat) : Nat := sumF (fun j => if R j s = true then 1 else 0) (n + 1)
theorem rsd_succ (R : Nat → Nat → Bool) (s n : Nat) : rsd R s (n + 1) = rsd R s n + if R (n + 1) s = true then 1 else 0 := rfl
def b2n (b : Bool) : Nat := if b = true then 1 else 0
theorem b2n_or (a b : Bool) : b2n (a || b) ≤ b2n a + b2n b := by cases a <;> cases b <;> decide
/-- Nothing runs more often than it was raised. -/
def CntJ (R : Nat → Nat → Bool) (pend : Nat → Bool) (now : Nat → Bool) (k : Nat) (next : Nat → Bool) (ran : List Nat) : Prop :=
  ∀ s, ran.count s + (if k ≤ s then b2n (now s) else 0) + b2n (next s) ≤ b2n (pend s) + rsd R s ran.length
theorem cnt_scan {R : Nat → Nat → Bool} {pend : Nat → Bool} {st : SfT} (h : CntJ R pend st.now 0 st.next st.ran) : ∀ k, CntJ R pend st.now k (scanJ R st k).next (scanJ R st k).ran
  | 0 => h
  | k + 1 => by
    have ih := cnt_scan h k
    intro s
    have hs := ih s
    cases g : st.now k with
    | true =>
      rw [scan_yes g]
      simp only [List.length_append, List.length_singleton, List.count_append, rsd_succ]
      have ho := b2n_or ((scanJ R st k).next s) (R ((scanJ R st k).ran.length + 1) s)
      have e : (if R ((scanJ R st k).ran.length + 1) s = true then 1 else 0) = b2n (R ((scanJ R st k).ran.length + 1) s) := rfl
      rw [e]
      by_cases q : s = k
      · rw [q] at hs ho ⊢
        rw [if_pos (Nat.le_refl _), g] at hs
        rw [if_neg (by omega), List.count_singleton_self]
        have : b2n true = 1 := rfl
        omega
      · have hc : List.count s [k] = 0 := by
          rw [List.count_eq_zero]; simp [q]
        rw [hc]
        by_cases q2 : k ≤ s
        · rw [if_pos q2] at hs; rw [if_pos (by omega)]; omega
        · rw [if_neg q2] at hs; rw [if_neg (by omega)]; omega
    | false =>
      rw [scan_no g]
      by_cases q : s = k
      · rw [q] at hs ⊢
        rw [if_neg (by omega)]
        omega
      · by_cases q2 : k ≤ s
        · rw [if_pos q2] at hs; rw [if_pos (by omega)]; exact hs
        · rw [if_neg q2] at hs; rw [if_neg (by omega)]; exact hs
/-- Only the eight numbers are pending. -/
def In8 (f : Nat → Bool) : Prop := ∀ s, f s = true → s < 8
theorem cnt_rds {R : Nat → Nat → Bool} {pend : Nat → Bool} (h8 : ∀ j, In8 (R j)) : ∀ n, CntJ R pend (rdsJ R (startJ R pend) n).now 0 (rdsJ R (startJ R pend) n).next (rdsJ R (startJ R pend) n).ran
  | 0 => fun s => by
    show List.count s [] + (if 0 ≤ s then b2n (pend s || R 0 s) else 0) + b2n false ≤ b2n (pend s) + rsd R s 0
    rw [if_pos (Nat.zero_le _)]
    have ho := b2n_or (pend s) (R 0 s)
    have e : rsd R s 0 = b2n (R 0 s) := by unfold rsd b2n; simp [sumF]
    rw [e]
    have : b2n false = 0 := rfl
    simp only [List.count_nil]
    omega
  | n + 1 => fun s => by
    have h := cnt_scan (cnt_rds (pend := pend) h8 n) 8 s
    show List.count s (scanJ R _ 8).ran + (if 0 ≤ s then b2n ((scanJ R _ 8).next s) else 0) + b2n false ≤ b2n (pend s) + rsd R s (scanJ R _ 8).ran.length
    rw [if_pos (Nat.zero_le _)]
    have : b2n false = 0 := rfl
    omega
/-- What is pending, raised, runs. -/
def DueJ (R : Nat → Nat → Bool) (pend : Nat → Bool) (now : Nat → Bool) (k : Nat) (next : Nat → Bool) (ran : List Nat) : Prop :=
  (∀ s, s < 8 → (pend s || R 0 s) = true → s ∈ ran ∨ (k ≤ s ∧ now s = true) ∨ next s = true) ∧
  ∀ j s, s < 8 → 0 < j → j ≤ ran.length → R j s = true → s ∈ ran.drop j ∨ (k ≤ s ∧ now s = true) ∨ next s = true
theorem due_scan {R : Nat → Nat → Bool} {pend : Nat → Bool} {st : SfT} (h : DueJ R pend st.now 0 st.next st.ran) : ∀ k, DueJ R pend st.now k (scanJ R st k).next (scanJ R st k).ran
  | 0 => h
  | k + 1 => by
    obtain ⟨h1, h2⟩ := due_scan h k
    cases g : st.now k with
    | true =>
      rw [scan_yes g]
      refine ⟨fun s hs hp => ?_, fun j s hs hj hl hr => ?_⟩
      · simp only [List.mem_append, List.mem_singleton, Bool.or_eq_true]
        rcases h1 s hs hp with q | ⟨q1, q2⟩ | q
        · exact Or.inl (Or.inl q)
        · by_cases e : s = k
          · exact Or.inl (Or.inr e)
          · exact Or.inr (Or.inl ⟨by omega, q2⟩)
        · exact Or.inr (Or.inr (Or.inl q))
      · simp only [List.length_append, List.length_singleton] at hl
        simp only [Bool.or_eq_true]
        by_cases e : j = (scanJ R st k).ran.length + 1
        · right; right; right; rw [← e]; exact hr
        · have hd : ((scanJ R st k).ran ++ [k]).drop j = (scanJ R st k).ran.drop j ++ [k] := List.drop_append_of_le_length (by omega)
          rw [hd, List.mem_append, List.mem_singleton]
          rcases h2 j s hs hj (by omega) hr with q | ⟨q1, q2⟩ | q
          · exact Or.inl (Or.inl q)
          · by_cases e2 : s = k
            · exact Or.inl (Or.inr e2)
            · exact Or.inr (Or.inl ⟨by omega, q2⟩)
          · exact Or.inr (Or.inr (Or.inl q))
    | false =>
      rw [scan_no g]
      refine ⟨fun s hs hp => ?_, fun j s hs hj hl hr => ?_⟩
      · rcases h1 s hs hp with q | ⟨q1, q2⟩ | q
        · exact Or.inl q
        · have : ¬ s = k := by rintro rfl; rw [g] at q2; cases q2
          exact Or.inr (Or.inl ⟨by omega, q2⟩)
        · exact Or.inr (Or.inr q)
      · rcases h2 j s hs hj hl hr with q | ⟨q1, q2⟩ | q
        · exact Or.inl q
        · have : ¬ s = k := by rintro rfl; rw [g] at q2; cases q2
          exact Or.inr (Or.inl ⟨by omega, q2⟩)
        · exact Or.inr (Or.inr q)
theorem due_rds {R : Nat → Nat → Bool} {pend : Nat → Bool} : ∀ n, DueJ R pend (rdsJ R (startJ R pend) n).now 0 (rdsJ R (startJ R pend) n).next (rdsJ R (startJ R pend) n).ran
  | 0 => ⟨fun s _ h => Or.inr (Or.inl ⟨Nat.zero_le _, h⟩), fun j s _ hj hl _ => by
    have : j ≤ 0 := hl
    omega⟩
  | n + 1 => by
    obtain ⟨h1, h2⟩ := due_scan (due_rds (R := R) (pend := pend) n) 8
    refine ⟨fun s hs hp => ?_, fun j s hs hj hl hr => ?_⟩
    · rcases h1 s hs hp with q | ⟨q1, q2⟩ | q
      · exact Or.inl q
      · omega
      · exact Or.inr (Or.inl ⟨Nat.zero_le _, q⟩)
    · rcases h2 j s hs hj hl hr with q | ⟨q1, q2⟩ | q
      · exact Or.inl q
      · omega
      · exact Or.inr (Or.inl ⟨Nat.zero_le _, q⟩)
/-- At the end all that was raised has run, behind its raise. -/
theorem due_end {R : Nat → Nat → Bool} {pend : Nat → Bool} {n : Nat} (h : EmptyJ (rdsJ R (startJ R pend) n).now) :
    (∀ s, s < 8 → pend s = true → s ∈ (rdsJ R (startJ R pend) n).ran) ∧ ∀ j s, s < 8 → 0 < j → j ≤ (rdsJ R (startJ R pend) n).ran.length → R j s = true → s ∈ (rdsJ R (startJ R pend) n).ran.drop j := by
  obtain ⟨h1, h2⟩ := due_rds (R := R) (pend := pend) n
  have h3 := rds_next (R := R) (st := startJ R pend) rfl n
  refine ⟨fun s hs hp => ?_, fun j s hs hj hl hr => ?_⟩
  · rcases h1 s hs (by rw [hp]; rfl) with q | ⟨_, q⟩ | q
    · exact q
    · rw [h s hs] at q; cases q
    · rw [h3] at q; cases q
  · rcases h2 j s hs hj hl hr with q | ⟨_, q⟩ | q
    · exact q
    · rw [h s hs] at q; cases q
    · rw [h3] at q; cases q
/-- Two sets of raises that are one up to W runs: what runs up to there is one. -/
def SimJ (W : Nat) (a b : SfT) : Prop := (a = b ∧ a.ran.length < W) ∨ (W ≤ a.ran.length ∧ W ≤ b.ran.length ∧ a.ran.take W = b.ran.take W)
theorem take_pre {α : Type} {l m : List α} {W : Nat} (h : l <+: m) (hW : W ≤ l.length) : m.take W = l.take W := by
  obtain ⟨t, rfl⟩ := h
  exact List.take_append_of_le_length hW
theorem sim_scan {R Q : Nat → Nat → Bool} {W : Nat} (hR : ∀ j s, j < W → R j s = Q j s) {a : SfT} (ha : a.ran.length < W) : ∀ k, SimJ W (scanJ R a k) (scanJ Q a k)
  | 0 => Or.inl ⟨rfl, ha⟩
  | k + 1 => by
    have ih := sim_scan hR ha k
    cases g : a.now k with
    | true =>
      rw [scan_yes g, scan_yes g]
      rcases ih with ⟨e, hl⟩ | ⟨h1, h2, h3⟩
      · rw [← e]
        by_cases q : (scanJ R a k).ran.length + 1 < W
        · left
          refine ⟨?_, by simp only [List.length_append, List.length_singleton]; exact q⟩
          simp only [SfT.mk.injEq, true_and, and_true]
          funext x
          rw [hR _ x q]
        · right
          refine ⟨?_, ?_, rfl⟩ <;> (simp only [List.length_append, List.length_singleton]; omega)
      · right
        refine ⟨?_, ?_, ?_⟩
        · simp only [List.length_append]; omega
        · simp only [List.length_append]; omega
        · simp only
          rw [List.take_append_of_le_length h1, List.take_append_of_le_length h2]; exact h3
    | false => rw [scan_no g, scan_no g]; exact ih
theorem sim_rds {R Q : Nat → Nat → Bool} {W : Nat} (hR : ∀ j s, j < W → R j s = Q j s) {a : SfT} (ha : a.ran.length < W) : ∀ n, SimJ W (rdsJ R a n) (rdsJ Q a n)
  | 0 => Or.inl ⟨rfl, ha⟩
  | n + 1 => by
    rcases sim_rds hR ha n with ⟨e, hl⟩ | ⟨h1, h2, h3⟩
    · have h := sim_scan hR hl 8
      show SimJ W (roundJ R (rdsJ R a n)) (roundJ Q (rdsJ Q a n))
      rw [← e]
      rcases h with ⟨e2, hl2⟩ | ⟨g1, g2, g3⟩
      · left
        refine ⟨?_, hl2⟩
        unfold roundJ; rw [e2]
      · exact Or.inr ⟨g1, g2, g3⟩
    · right
      have p1 := scan_pre (R := R) (st := rdsJ R a n) 8
      have p2 := scan_pre (R := Q) (st := rdsJ Q a n) 8
      have l1 := p1.length_le
      have l2 := p2.length_le
      refine ⟨Nat.le_trans h1 l1, Nat.le_trans h2 l2, ?_⟩
      show (scanJ R (rdsJ R a n) 8).ran.take W = (scanJ Q (rdsJ Q a n) 8).ran.take W
      rw [take_pre p1 h1, take_pre p2 h2]; exact h3
/-- ONE RUN MORE IS FORESEEN BY NOBODY. -/
theorem part_end {R Q : Nat → Nat → Bool} {pend : Nat → Bool} {W n m : Nat} (hR : ∀ j s, j < W → R j s = Q j s) (hn : EmptyJ (rdsJ R (startJ R pend) n).now) (hm : EmptyJ (rdsJ Q (startJ Q pend) m).now) (hW : W ≤ (rdsJ R (startJ R pend) n).ran.length) :
    W ≤ (rdsJ Q (startJ Q pend) m).ran.length ∧ (rdsJ R (startJ R pend) n).ran.take W = (rdsJ Q (startJ Q pend) m).ran.take W := by
  by_cases h0 : W = 0
  · rw [h0]; exact ⟨Nat.zero_le _, rfl⟩
  have hs : startJ R pend = startJ Q pend := by
    unfold startJ
    simp only [SfT.mk.injEq, and_true]
    funext s
    rw [hR 0 s (by omega)]
  have h1 := rds_done (R := R) (st := startJ R pend) rfl hn (Nat.le_max_left n m)
  have h2 := rds_done (R := Q) (st := startJ Q pend) rfl hm (Nat.le_max_right n m)
  rw [← hs] at h2 ⊢
  rcases sim_rds hR (a := startJ R pend) (show ([] : List Nat).length < W by simp only [List.length_nil]; omega) (max n m) with ⟨e, hl⟩ | ⟨g1, g2, g3⟩
  · rw [h1] at hl; omega
  · rw [h1] at g3
    rw [h2] at g2 g3
    exact ⟨g2, g3⟩
/-- A raise. -/
structure RaT where
  at_ : Int
  soft : Int
/-- What is raised behind j runs. -/
def rJ (rs : List RaT) (j s : Nat) : Bool := rs.any fun r : RaT => decide (r.at_ = (j : Int) ∧ r.soft = (s : Int))
theorem once_at (x : Int) (p : Bool) : ∀ n, sumF (fun j => if (decide (x = (j : Int)) && p) = true then 1 else 0) n ≤ if p = true ∧ 0 ≤ x ∧ x < n then 1 else 0
  | 0 => by simp [sumF]
  | n + 1 => by
    rw [sumF]
    have ih := once_at x p n
    cases p with
    | false => simp at ih ⊢; exact ih
    | true =>
      simp only [Bool.and_true, true_and, decide_eq_true_eq] at ih ⊢
      by_cases g : x = (n : Int)
      · rw [if_pos g]
        rw [if_neg (by omega)] at ih
        rw [if_pos (by omega)]; omega
      · rw [if_neg g]
        by_cases g2 : 0 ≤ x ∧ x < (n : Int)
        · rw [if_pos g2] at ih; rw [if_pos (by omega)]; omega
        · rw [if_neg g2] at ih; rw [if_neg (by omega)]; omega
/-- How often s was raised is no more than how many raises there are of it. -/
theorem rsd_le : ∀ (rs : List RaT) (s n : Nat), rsd (rJ rs) s n ≤ rs.countP fun r : RaT => decide (r.soft = (s : Int) ∧ 0 ≤ r.at_ ∧ r.at_ ≤ (n : Int))
  | [], s, n => by unfold rsd rJ; simp [sumF_zero]
  | r :: rs, s, n => by
    have ih := rsd_le rs s n
    have h1 := once_at r.at_ (decide (r.soft = s)) (n + 1)
    rw [List.countP_cons]
    have h2 : rsd (rJ (r :: rs)) s n ≤ sumF (fun j => if (decide (r.at_ = (j : Int)) && decide (r.soft = s)) = true then 1 else 0) (n + 1) + rsd (rJ rs) s n := by
      unfold rsd
      rw [← sumF_add]
      refine sumF_le fun j _ => ?_
      have e : rJ (r :: rs) j s = ((decide (r.at_ = (j : Int)) && decide (r.soft = s)) || rJ rs j s) := by
        unfold rJ
        rw [List.any_cons, Bool.decide_and]
      rw [e]
      exact b2n_or _ _
    have h3 : (if decide (r.soft = (s : Int)) = true ∧ 0 ≤ r.at_ ∧ r.at_ < ((n + 1 : Nat) : Int) then 1 else 0) = if decide (r.soft = (s : Int) ∧ 0 ≤ r.at_ ∧ r.at_ ≤ (n : Int)) = true then 1 else 0 := by
      simp only [decide_eq_true_eq]
      by_cases g : r.soft = (s : Int) ∧ 0 ≤ r.at_ ∧ r.at_ ≤ (n : Int)
      · rw [if_pos (by omega), if_pos g]
      · rw [if_neg (by omega), if_neg g]
    rw [h3] at h1
    omega
theorem soft_all (n : Nat) : ∀ rs : List RaT, sumF (fun s => rs.countP fun r : RaT => decide (r.soft = (s : Int) ∧ 0 ≤ r.at_ ∧ r.at_ ≤ (n : Int))) 8 ≤ rs.length
  | [] => by simp [sumF_zero]
  | r :: rs => by
    have ih := soft_all n rs
    have h1 := once_at r.soft (decide (0 ≤ r.at_ ∧ r.at_ ≤ n)) 8
    have e : sumF (fun s => (r :: rs).countP fun r : RaT => decide (r.soft = (s : Int) ∧ 0 ≤ r.at_ ∧ r.at_ ≤ (n : Int))) 8 = sumF (fun j => if (decide (r.soft = (j : Int)) && decide (0 ≤ r.at_ ∧ r.at_ ≤ n)) = true then 1 else 0) 8 + sumF (fun s => rs.countP fun r : RaT => decide (r.soft = (s : Int) ∧ 0 ≤ r.at_ ∧ r.at_ ≤ (n : Int))) 8 := by
      rw [← sumF_add]
      refine sumF_congr fun s _ => ?_
      rw [List.countP_cons, Nat.add_comm]
      congr 1
      rw [Bool.decide_and]
    have h2 : (if decide (0 ≤ r.at_ ∧ r.at_ ≤ (n : Int)) = true ∧ 0 ≤ r.soft ∧ r.soft < ((8 : Nat) : Int) then 1 else 0) ≤ 1 := by split <;> omega
    rw [e, List.length_cons]
    omega
theorem ran_in8 {R : Nat → Nat → Bool} {st : SfT} (h : ∀ x ∈ st.ran, x < 8) : ∀ k, k ≤ 8 → ∀ x ∈ (scanJ R st k).ran, x < 8
  | 0, _ => h
  | k + 1, hk => by
    have ih := ran_in8 (R := R) h k (by omega)
    cases g : st.now k with
    | true =>
      rw [scan_yes g]
      intro x hx
      rcases List.mem_append.1 hx with q | q
      · exact ih x q
      · rw [List.mem_singleton.1 q]; omega
    | false => rw [scan_no g]; exact ih
theorem rds_in8 {R : Nat → Nat → Bool} {st : SfT} (h : ∀ x ∈ st.ran, x < 8) : ∀ n, ∀ x ∈ (rdsJ R st n).ran, x < 8
  | 0 => h
  | n + 1 => ran_in8 (rds_in8 h n) 8 (Nat.le_refl _)
theorem len_count : ∀ {l : List Nat}, (∀ x ∈ l, x < 8) → l.length = sumF (fun s => l.count s) 8
  | [], _ => by simp [sumF_zero]
  | a :: l, h => by
    have ih := len_count (l := l) fun x hx => h x (List.mem_cons_of_mem _ hx)
    have ha := h a List.mem_cons_self
    have e : sumF (fun s => (a :: l).count s) 8 = sumF (fun s => l.count s) 8 + sumF (fun s => if a = s then 1 else 0) 8 := by
      rw [← sumF_add]
      refine sumF_congr fun s _ => ?_
      rw [List.count_cons]
      simp only [beq_iff_eq]
    rw [e, one_sum a 1 8, if_pos ha, List.length_cons, ih]
def l_cnt (rs : List RaT) (s n : Nat) : Nat := rs.countP fun r : RaT => decide (r.soft = (s : Int) ∧ 0 ≤ r.at_ ∧ r.at_ ≤ (n : Int))
/-- How many run, at most. -/
theorem ran_bound {rs : List RaT} {pend : Nat → Bool} (h8 : ∀ j, In8 (rJ rs j)) (n : Nat) : (rdsJ (rJ rs) (startJ (rJ rs) pend) n).ran.length ≤ 8 + rs.length := by
  obtain ⟨l, hl⟩ : ∃ l, (rdsJ (rJ rs) (startJ (rJ rs) pend) n).ran = l := ⟨_, rfl⟩
  have h1 := cnt_rds (R := rJ rs) (pend := pend) h8 n
  have h2 := rds_in8 (R := rJ rs) (st := startJ (rJ rs) pend) (by intro x hx; cases hx) n
  rw [hl] at h1 h2 ⊢
  rw [len_count h2]
  have h3 : sumF (fun s => l.count s) 8 ≤ sumF (fun s => 1 + l_cnt rs s l.length) 8 := sumF_le fun s _ => by
    have q1 := h1 s
    have q2 := rsd_le rs s l.length
    have q3 : b2n (pend s) ≤ 1 := by cases pend s <;> decide
    unfold l_cnt
    omega
  have h4 : sumF (fun s => 1 + l_cnt rs s l.length) 8 = 8 * 1 + sumF (fun s => l_cnt rs s l.length) 8 := by rw [← sumF_const, ← sumF_add]
  have h5 : sumF (fun s => l_cnt rs s l.length) 8 ≤ rs.length := soft_all l.length rs
  rw [len_count h2] at h3 h4 h5
  omega
end Go.Proofs.Ytnaplbkigebdiaa
