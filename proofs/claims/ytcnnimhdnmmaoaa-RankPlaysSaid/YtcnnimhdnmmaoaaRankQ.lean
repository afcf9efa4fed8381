/- Plain facts on circles: leaving out who has nobody before him; the way round. No program in sight. -/
import Derived.Test.YtcnnimhdnmmaoaaRankP
namespace Go.Proofs.Ytcnnimhdnmmaoaa

/-- How many of the first k. -/
def cn (p : Nat → Bool) : Nat → Nat
  | 0 => 0
  | k + 1 => cn p k + (if p k = true then 1 else 0)
theorem cn_zero {p : Nat → Bool} : ∀ {k : Nat}, cn p k = 0 → ∀ i, i < k → p i = false
  | 0, _, i, hi => by omega
  | k + 1, h, i, hi => by
    simp only [cn] at h
    by_cases e : i = k
    · subst e
      cases hp : p i with
      | false => rfl
      | true => rw [if_pos hp] at h; omega
    · exact cn_zero (k := k) (by omega) i (by omega)
theorem cn_all {p : Nat → Bool} : ∀ {k : Nat}, (∀ i, i < k → p i = false) → cn p k = 0
  | 0, _ => rfl
  | k + 1, h => by
    simp only [cn]
    rw [cn_all (k := k) fun i hi => h i (by omega), if_neg (by rw [h k (by omega)]; decide)]
theorem cn_congr {p q : Nat → Bool} : ∀ {k : Nat}, (∀ i, i < k → p i = q i) → cn p k = cn q k
  | 0, _ => rfl
  | k + 1, h => by
    simp only [cn]
    rw [cn_congr (k := k) fun i hi => h i (by omega), h k (by omega)]
theorem cn_drop {p q : Nat → Bool} {a : Nat} : ∀ {k : Nat}, a < k → p a = true → q a = false → (∀ i, i < k → ¬ i = a → p i = q i) → cn p k = cn q k + 1
  | 0, h, _, _, _ => by omega
  | k + 1, h, hp, hq, he => by
    simp only [cn]
    by_cases e : a = k
    · subst e
      rw [if_pos hp, if_neg (by rw [hq]; decide), cn_congr (q := q) fun i hi => he i (by omega) (by omega)]
    · rw [cn_drop (k := k) (by omega) hp hq fun i hi => he i (by omega), he k (by omega) (fun h => e h.symm)]
      omega
theorem cn_le (p : Nat → Bool) : ∀ k, cn p k ≤ k
  | 0 => Nat.le_refl _
  | k + 1 => by
    have := cn_le p k
    simp only [cn]
    split <;> omega
section
variable {T K : Nat} {s : RkT}
/-- Is he in a circle? -/
def CycK (T K : Nat) (s : RkT) (t : Nat) : Prop := ∃ k, itK T K s t (k + 1) = some t
theorem cyc_pred {t : Nat} (ht : t < T) (h : CycK T K s t) : ∃ u, u < T ∧ sucK T K s u = some t ∧ CycK T K s u := by
  obtain ⟨k, hk⟩ := h
  obtain ⟨u, h1, h2⟩ := Option.bind_eq_some_iff.1 hk
  refine ⟨u, it_lt ht h1, h2, k, ?_⟩
  rw [it_first, h2]
  exact h1
/-- Who waits for somebody, before anybody is left out. -/
def preK (T K : Nat) (s : RkT) (t k : Nat) : Nat := cn (fun u => decide (sucK T K s u = some t)) k
/-- What holds while they are left out. -/
def ElimJ (T K : Nat) (s : RkT) (bf : Nat → Int) : Prop :=
  ∀ t, t < T → (bf t = -1 ∧ (¬ CycK T K s t) ∧ ∀ u, u < T → sucK T K s u = some t → bf u = -1) ∨ bf t = (cn (fun u => decide (sucK T K s u = some t) && !decide (bf u = -1)) T : Nat)
theorem elim_start {bf : Nat → Int} (h : ∀ t, t < T → bf t = (preK T K s t T : Nat)) : ElimJ T K s bf := fun t ht => by
  right
  rw [h t ht]
  congr 1
  refine cn_congr fun i hi => ?_
  have : decide (bf i = -1) = false := by rw [decide_eq_false_iff_not, h i hi]; omega
  simp [this]
/-- One more is left out. -/
def outK (T K : Nat) (s : RkT) (bf : Nat → Int) (a : Nat) : Nat → Int :=
  match sucK T K s a with
  | none => upZ bf a (-1)
  | some b => upZ (upZ bf a (-1)) b (bf b - 1)
theorem elim_facts {bf : Nat → Int} (h : ElimJ T K s bf) {a : Nat} (ha : a < T) (h0 : bf a = 0) :
    (∀ u, u < T → sucK T K s u = some a → bf u = -1) ∧ (¬ CycK T K s a) ∧ ∀ b, b < T → sucK T K s a = some b → ¬ b = a ∧ 1 ≤ bf b := by
  have h1 : ∀ u, u < T → sucK T K s u = some a → bf u = -1 := fun u hu hs => by
    rcases h a ha with ⟨e, _⟩ | e
    · omega
    · have := cn_zero (p := fun u => decide (sucK T K s u = some a) && !decide (bf u = -1)) (k := T) (by omega) u hu
      simpa [hs] using this
  refine ⟨h1, fun hc => ?_, fun b hb hs => ⟨?_, ?_⟩⟩
  · obtain ⟨u, hu, hs, hcu⟩ := cyc_pred ha hc
    have e := h1 u hu hs
    rcases h u hu with ⟨_, q, _⟩ | q
    · exact q hcu
    · omega
  · rintro rfl
    have := h1 b ha hs
    omega
  · rcases h b hb with ⟨e, _, q⟩ | e
    · have := q a ha hs
      omega
    · by_cases hz : bf b = 0
      · have := cn_zero (p := fun u => decide (sucK T K s u = some b) && !decide (bf u = -1)) (k := T) (by omega) a ha
        simp [hs, h0] at this
      · omega
theorem suc_ltT {a b : Nat} (h : sucK T K s a = some b) : b < T := by
  obtain ⟨_, _, _, _, h⟩ := suc_some h
  exact h
theorem out_a {bf : Nat → Int} (h : ElimJ T K s bf) {a : Nat} (ha : a < T) (h0 : bf a = 0) : outK T K s bf a a = -1 := by
  obtain ⟨_, _, h3⟩ := elim_facts h ha h0
  unfold outK
  cases hs : sucK T K s a with
  | none => exact upZ_same _ _ _
  | some b =>
    have := (h3 b (suc_ltT hs) hs).1
    show upZ (upZ bf a (-1)) b _ a = -1
    rw [upZ_other (fun e => this e.symm), upZ_same]
theorem out_b {bf : Nat → Int} {a b : Nat} (hs : sucK T K s a = some b) : outK T K s bf a b = bf b - 1 := by
  unfold outK
  rw [hs]
  exact upZ_same _ _ _
theorem out_other {bf : Nat → Int} {a t : Nat} (h1 : ¬ t = a) (h2 : ¬ sucK T K s a = some t) : outK T K s bf a t = bf t := by
  unfold outK
  cases hs : sucK T K s a with
  | none => exact upZ_other h1
  | some b =>
    show upZ (upZ bf a (-1)) b _ t = bf t
    rw [upZ_other (fun e => h2 (by rw [hs, e])), upZ_other h1]
theorem elim_step {bf : Nat → Int} (h : ElimJ T K s bf) {a : Nat} (ha : a < T) (h0 : bf a = 0) : ElimJ T K s (outK T K s bf a) := by
  obtain ⟨h1, h2, h3⟩ := elim_facts h ha h0
  -- who was left out stays left out
  have hst : ∀ u, u < T → bf u = -1 → outK T K s bf a u = -1 := fun u hu e => by
    rw [out_other (by rintro rfl; omega) (fun hs => by have := (h3 u hu hs).2; omega)]
    exact e
  have hsame : ∀ u, u < T → ¬ u = a → decide (outK T K s bf a u = -1) = decide (bf u = -1) := fun u hu hua => by
    by_cases hs : sucK T K s a = some u
    · have g := (h3 u hu hs).2
      have e := out_b (bf := bf) hs
      rw [decide_eq_false (by omega), decide_eq_false (by omega)]
    · rw [out_other hua hs]
  intro t ht
  by_cases hta : t = a
  · subst hta
    exact Or.inl ⟨out_a h ha h0, h2, fun u hu hs => hst u hu (h1 u hu hs)⟩
  · by_cases hs : sucK T K s a = some t
    · right
      have g := (h3 t ht hs).2
      rcases h t ht with ⟨e, _⟩ | e
      · omega
      rw [out_b hs, e, cn_drop (a := a) (q := fun u => decide (sucK T K s u = some t) && !decide (outK T K s bf a u = -1)) ha (by simp [hs, h0]) (by simp [out_a h ha h0]) (fun i hi hia => by simp only [hsame i hi hia])]
      omega
    · rcases h t ht with ⟨e, q1, q2⟩ | e
      · exact Or.inl ⟨hst t ht e, q1, fun u hu hsu => hst u hu (q2 u hu hsu)⟩
      · right
        rw [out_other hta hs, e]
        congr 1
        refine cn_congr fun i hi => ?_
        by_cases hia : i = a
        · subst hia; simp [hs]
        · simp only [hsame i hi hia]
/-- Fewer are left. -/
theorem out_fewer {bf : Nat → Int} (h : ElimJ T K s bf) {a : Nat} (ha : a < T) (h0 : bf a = 0) : cn (fun u => !decide (outK T K s bf a u = -1)) T < cn (fun u => !decide (bf u = -1)) T := by
  obtain ⟨_, _, h3⟩ := elim_facts h ha h0
  rw [cn_drop (p := fun u => !decide (bf u = -1)) (q := fun u => !decide (outK T K s bf a u = -1)) (a := a) ha (by simp [h0]) (by simp [out_a h ha h0]) (fun u hu hua => by
    by_cases hs : sucK T K s a = some u
    · have g := (h3 u hu hs).2
      have e := out_b (bf := bf) hs
      rw [decide_eq_false (p := bf u = -1) (by omega), decide_eq_false (p := outK T K s bf a u = -1) (by omega)]
    · rw [out_other hua hs])]
  omega
/-- Who is left in the end is in a circle, and the other way round. -/
theorem elim_end {bf : Nat → Int} (h : ElimJ T K s bf) (hz : ∀ t, t < T → ¬ bf t = 0) {f : Nat} (hf : f < T) : 0 < bf f ↔ CycK T K s f := by
  constructor
  · intro h0
    -- everybody who is left has somebody before him who is left
    have hp : ∀ t, t < T → 0 < bf t → ∃ u, u < T ∧ sucK T K s u = some t ∧ 0 < bf u := fun t ht h0 => by
      rcases h t ht with ⟨e, _⟩ | e
      · omega
      · refine Classical.byContradiction fun hn => ?_
        have : cn (fun u => decide (sucK T K s u = some t) && !decide (bf u = -1)) T = 0 := cn_all fun u hu => by
          by_cases hs : sucK T K s u = some t
          · rcases h u hu with ⟨e, _⟩ | e
            · simp [e]
            · exact absurd ⟨u, hu, hs, by have := hz u hu; omega⟩ hn
          · simp [hs]
        omega
    let q : Nat → {t : Nat // t < T ∧ 0 < bf t} := fun k => Nat.rec ⟨f, hf, h0⟩ (fun _ x => ⟨Classical.choose (hp x.1 x.2.1 x.2.2), (Classical.choose_spec (hp x.1 x.2.1 x.2.2)).1, (Classical.choose_spec (hp x.1 x.2.1 x.2.2)).2.2⟩) k
    have hq : ∀ k, sucK T K s (q (k + 1)).1 = some (q k).1 := fun k => (Classical.choose_spec (hp (q k).1 (q k).2.1 (q k).2.2)).2.1
    have hit : ∀ d k, itK T K s (q (k + d)).1 d = some (q k).1 := fun d => by
      induction d with
      | zero => intro k; rfl
      | succ d ih =>
        intro k
        rw [it_first, show k + (d + 1) = (k + d) + 1 from rfl, hq]
        exact ih k
    -- two of the first T + 1 are one
    have hpig : ∃ i j, i < j ∧ (q i).1 = (q j).1 := by
      refine Classical.byContradiction fun hn => ?_
      have := sumF_inj (O := fun i => (q i).1) (n := T) (k := T + 1) (fun _ => 1) (fun i hi => (q i).2.1) (fun a b ha hb e => by
        by_cases g : a < b
        · exact absurd ⟨a, b, g, e⟩ hn
        · by_cases g2 : b < a
          · exact absurd ⟨b, a, g2, e.symm⟩ hn
          · omega)
      simp only [sumF_const] at this
      omega
    obtain ⟨i, j, hij, e⟩ := hpig
    have e1 := hit i 0
    have e2 := hit i (j - i)
    rw [Nat.zero_add] at e1
    rw [show j - i + i = j by omega, ← e, e1] at e2
    have e3 := hit (j - i) 0
    rw [Nat.zero_add] at e3
    refine ⟨j - i - 1, ?_⟩
    rw [show j - i - 1 + 1 = j - i by omega]
    have e4 : (q (j - i)).1 = f := (Option.some.inj e2).symm
    rw [e4] at e3
    exact e3
  · intro hc
    rcases h f hf with ⟨_, q, _⟩ | e
    · exact absurd hc q
    · have := hz f hf
      omega
/-- The way: who comes i steps on. -/
def itN (T K : Nat) (s : RkT) (f i : Nat) : Nat := (itK T K s f i).getD 0
def wayN (T K : Nat) (s : RkT) (f j : Nat) : List Nat := (List.range j).map (itN T K s f)
theorem way_succ (f j : Nat) : wayN T K s f (j + 1) = wayN T K s f j ++ [itN T K s f j] := by
  unfold wayN; rw [List.range_succ, List.map_append]; rfl
theorem way_len (f j : Nat) : (wayN T K s f j).length = j := by simp [wayN]
theorem itN_of {f i t : Nat} (h : itK T K s f i = some t) : itN T K s f i = t := by unfold itN; rw [h]; rfl
theorem it_some {f j t : Nat} (h : itK T K s f j = some t) : ∀ i, i ≤ j → itK T K s f i = some (itN T K s f i) := fun i hi => by
  cases e : itK T K s f i with
  | some u => rw [itN_of e]
  | none =>
    have hn : ∀ b, itK T K s f (i + b) = none := fun b => by
      induction b with
      | zero => exact e
      | succ b ih => show (itK T K s f (i + b)).bind _ = none; rw [ih]; rfl
    have := hn (j - i)
    rw [show i + (j - i) = j by omega, h] at this
    cases this
/-- A way that is round. -/
theorem cir_way {f j : Nat} (hf : f < T) (hj : 0 < j) (h : itK T K s f j = some f) (hn : ∀ i, 0 < i → i < j → ¬ itK T K s f i = some f) (hl : ∀ t, t < f → ¬ CycK T K s t) : CirIs T K s (wayN T K s f j) := by
  refine Or.inr ⟨f, ?_, hf, ?_, by rw [way_len]; exact h, fun i h1 h2 => hn i h1 (by rwa [way_len] at h2), fun t k ht e => hl t ht ⟨k, e⟩⟩
  · obtain ⟨k, rfl⟩ : ∃ k, j = k + 1 := ⟨j - 1, by omega⟩
    unfold wayN
    rw [List.range_succ_eq_map]
    rfl
  · intro i hi
    rw [way_len] at hi
    rw [it_some h i (by omega)]
    unfold wayN
    rw [List.getElem?_map, List.getElem?_range hi]
    rfl
theorem cir_none (h : ∀ t, t < T → ¬ CycK T K s t) : CirIs T K s [] := Or.inl ⟨rfl, fun t k ht e => h t ht ⟨k, e⟩⟩
theorem cyc_soon {f : Nat} (hf : f < T) (h : CycK T K s f) : ∃ j, 0 < j ∧ j ≤ T ∧ itK T K s f j = some f ∧ ∀ i, 0 < i → i < j → ¬ itK T K s f i = some f := by
  obtain ⟨k, hk⟩ := h
  exact back_soon hf hk
/-- Each in a circle is there, waits for what the next one holds, and stands in it once. -/
theorem cir_facts {p : List Nat} (h : CirIs T K s p) {i t : Nat} (hi : p[i]? = some t) : t < T ∧ (∃ u, p[(i + 1) % p.length]? = some u ∧ sucK T K s t = some u) ∧ ∀ j, j < i → ¬ p[j]? = some t := by
  have hil := (List.getElem?_eq_some_iff.1 hi).1
  rcases h with ⟨rfl, _⟩ | ⟨f, p0, p1, p2, p3, p4, p5⟩
  · simp at hi
  · have e := (p2 i hil).trans hi
    have ht := it_lt p1 e
    have hsuc : ∃ u, p[(i + 1) % p.length]? = some u ∧ sucK T K s t = some u := by
      have e2 : itK T K s f (i + 1) = sucK T K s t := by show (itK T K s f i).bind _ = _; rw [e]; rfl
      by_cases g : i + 1 < p.length
      · rw [Nat.mod_eq_of_lt g, ← p2 _ g, e2]
        have := List.getElem?_eq_getElem g
        rw [← p2 _ g, e2] at this
        exact ⟨_, this, this⟩
      · have g2 : i + 1 = p.length := by omega
        rw [g2, Nat.mod_self]
        rw [g2, p3] at e2
        refine ⟨f, ?_, e2.symm⟩
        rw [List.head?_eq_getElem?] at p0
        exact p0
    refine ⟨ht, hsuc, fun j hj ej => ?_⟩
    have e3 := (p2 j (by omega)).trans ej
    -- from both on it is as far back to f
    have q1 := it_add e (p.length - i)
    have q2 := it_add e3 (p.length - i)
    rw [show i + (p.length - i) = p.length by omega, p3] at q1
    rw [← q1] at q2
    exact p4 (j + (p.length - i)) (by omega) (by omega) q2
end
end Go.Proofs.Ytcnnimhdnmmaoaa
