/- Plain facts on a stable sort by insertion and by merges in place. No program in sight. -/
import Derived.Test.YtningajaimbncaaSprM
namespace Go.Proofs.Ytningajaimbncaa

/-- x stands before y: it is larger, or as large and given earlier. -/
def Lt (ws : Nat → Nat) (x y : Nat) : Prop := ws y < ws x ∨ (ws x = ws y ∧ x < y)
theorem Lt.trans {ws : Nat → Nat} {x y z : Nat} (h : Lt ws x y) (k : Lt ws y z) : Lt ws x z := by unfold Lt at *; omega
/-- In order from a to b. -/
def Srt (ws O : Nat → Nat) (a b : Nat) : Prop := ∀ i j, a ≤ i → i < j → j < b → Lt ws (O i) (O j)
/-- Only what lies from a to b has changed places. -/
def Seg (O O' : Nat → Nat) (a b n : Nat) : Prop :=
  (∀ i, ¬ (a ≤ i ∧ i < b) → O' i = O i) ∧ (∀ P : Nat → Prop, (∀ i, a ≤ i → i < b → P (O i)) → ∀ i, a ≤ i → i < b → P (O' i)) ∧ (Perm O n → Perm O' n)
theorem Seg.refl (O : Nat → Nat) (a b n : Nat) : Seg O O a b n := ⟨fun _ _ => rfl, fun _ h => h, id⟩
theorem Seg.trans {O O' O2 : Nat → Nat} {a b n : Nat} (h : Seg O O' a b n) (k : Seg O' O2 a b n) : Seg O O2 a b n :=
  ⟨fun i hi => (k.1 i hi).trans (h.1 i hi), fun P hP => k.2.1 P (h.2.1 P hP), fun hp => k.2.2 (h.2.2 hp)⟩
theorem Seg.mono {O O' : Nat → Nat} {a b a' b' n : Nat} (h : Seg O O' a b n) (ha : a' ≤ a) (hb : b ≤ b') : Seg O O' a' b' n := by
  refine ⟨fun i hi => h.1 i (by omega), fun P hP i h1 h2 => ?_, h.2.2⟩
  by_cases e : a ≤ i ∧ i < b
  · exact h.2.1 P (fun j hj1 hj2 => hP j (by omega) (by omega)) i e.1 e.2
  · rw [h.1 i e]; exact hP i h1 h2
theorem Seg.swap (O : Nat → Nat) {a b n i j : Nat} (hi : a ≤ i ∧ i < b) (hj : a ≤ j ∧ j < b) (hb : b ≤ n) : Seg O (upd (upd O i (O j)) j (O i)) a b n := by
  refine ⟨fun k hk => ?_, fun P hP k h1 h2 => ?_, fun hp => perm_swap hp (by omega) (by omega)⟩
  · rw [upd_other (by rintro rfl; exact hk hj), upd_other (by rintro rfl; exact hk hi)]
  · by_cases e : k = j
    · rw [e, upd_same]; exact hP i hi.1 hi.2
    · rw [upd_other e]
      by_cases g : k = i
      · rw [g, upd_same]; exact hP j hj.1 hj.2
      · rw [upd_other g]; exact hP k h1 h2
theorem Srt.same {ws O O' : Nat → Nat} {a b : Nat} (h : Srt ws O a b) (e : ∀ i, a ≤ i → i < b → O' i = O i) : Srt ws O' a b :=
  fun i j h1 h2 h3 => by rw [e i h1 (by omega), e j (by omega) h3]; exact h i j h1 h2 h3
/-- Two halves in order, and all of the first before all of the second. -/
theorem Srt.join {ws O : Nat → Nat} {a m b : Nat} (h1 : Srt ws O a m) (h2 : Srt ws O m b) (h : ∀ p q, a ≤ p → p < m → m ≤ q → q < b → Lt ws (O p) (O q)) : Srt ws O a b := fun i j hi hij hj => by
  by_cases g : j < m
  · exact h1 i j hi hij g
  · by_cases g2 : i < m
    · exact h i j hi g2 (by omega) hj
    · exact h2 i j (by omega) hij hj
/-- Insertion: all in order from a to i, but for what stands at j. -/
def Insd (ws O : Nat → Nat) (a i j : Nat) : Prop := (∀ p q, a ≤ p → p < q → q < i + 1 → ¬ q = j → Lt ws (O p) (O q)) ∧ ∀ p, a ≤ p → p < j → O p < O j
theorem Insd.start {ws O : Nat → Nat} {a i : Nat} (h : Srt ws O a i) (hx : ∀ p, a ≤ p → p < i → O p < O i) : Insd ws O a i i :=
  ⟨fun p q h1 h2 h3 h4 => h p q h1 h2 (by omega), hx⟩
theorem Insd.step {ws O : Nat → Nat} {a i k : Nat} (h : Insd ws O a i (k + 1)) (hk : a ≤ k) (hi : k + 1 ≤ i) (hc : ws (O k) < ws (O (k + 1))) : Insd ws (upd (upd O (k + 1) (O k)) k (O (k + 1))) a i k := by
  obtain ⟨h1, h2⟩ := h
  have e1 : upd (upd O (k + 1) (O k)) k (O (k + 1)) k = O (k + 1) := upd_same _ _ _
  have e2 : upd (upd O (k + 1) (O k)) k (O (k + 1)) (k + 1) = O k := by rw [upd_other (by omega), upd_same]
  have e3 : ∀ t, ¬ t = k → ¬ t = k + 1 → upd (upd O (k + 1) (O k)) k (O (k + 1)) t = O t := fun t g1 g2 => by rw [upd_other g1, upd_other g2]
  constructor
  · intro p q hp hpq hq hqk
    by_cases q1 : q = k + 1
    · subst q1
      rw [e2]
      by_cases p1 : p = k
      · subst p1; rw [e1]; exact Or.inl hc
      · rw [e3 p p1 (by omega)]
        exact h1 p k hp (by omega) (by omega) (by omega)
    · rw [e3 q hqk q1]
      by_cases p1 : p = k
      · subst p1; rw [e1]; exact h1 (p + 1) q (by omega) (by omega) hq q1
      · by_cases p2 : p = k + 1
        · subst p2; rw [e2]; exact h1 k q hk (by omega) hq q1
        · rw [e3 p p1 p2]; exact h1 p q hp hpq hq q1
  · intro p hp hpk
    rw [e1, e3 p (by omega) (by omega)]
    exact h2 p hp (by omega)
theorem Insd.stop {ws O : Nat → Nat} {a i j : Nat} (h : Insd ws O a i j) (ha : a ≤ j) (hj : j ≤ i) (hc : a < j → ¬ ws (O (j - 1)) < ws (O j)) : Srt ws O a (i + 1) := by
  intro p q hp hpq hq
  by_cases e : q = j
  · subst e
    have h0 := hc (by omega)
    have hx := h.2 (q - 1) (by omega) (by omega)
    have hl : Lt ws (O (q - 1)) (O q) := by unfold Lt; omega
    by_cases g : p = q - 1
    · rw [g]; exact hl
    · exact (h.1 p (q - 1) hp (by omega) (by omega) (by omega)).trans hl
  · exact h.1 p q hp hpq hq e
/-- Two neighbouring stretches that change places. -/
def rot (O : Nat → Nat) (a m b : Nat) : Nat → Nat := fun t => if a ≤ t ∧ t < a + (b - m) then O (t + (m - a)) else if a + (b - m) ≤ t ∧ t < b then O (t - (b - m)) else O t
/-- k places from a on change with k from b on. -/
def xch (O : Nat → Nat) (a b k : Nat) : Nat → Nat := fun t => if a ≤ t ∧ t < a + k then O (t + (b - a)) else if b ≤ t ∧ t < b + k then O (t - (b - a)) else O t
theorem xch_zero (O : Nat → Nat) (a b : Nat) : xch O a b 0 = O := funext fun t => by
  unfold xch
  rw [if_neg (by omega), if_neg (by omega)]
theorem xch_succ (O : Nat → Nat) {a b k : Nat} (h : a + k < b) : upd (upd (xch O a b k) (a + k) (xch O a b k (b + k))) (b + k) (xch O a b k (a + k)) = xch O a b (k + 1) := funext fun t => by
  have ea : xch O a b k (a + k) = O (a + k) := by unfold xch; rw [if_neg (by omega), if_neg (by omega)]
  have eb : xch O a b k (b + k) = O (b + k) := by unfold xch; rw [if_neg (by omega), if_neg (by omega)]
  rw [ea, eb]
  by_cases e1 : t = b + k
  · rw [e1, upd_same]
    unfold xch
    rw [if_neg (by omega), if_pos (by omega)]
    congr 1; omega
  · rw [upd_other e1]
    by_cases e2 : t = a + k
    · rw [e2, upd_same]
      unfold xch
      rw [if_pos (by omega)]
      congr 1; omega
    · rw [upd_other e2]
      unfold xch
      by_cases g1 : a ≤ t ∧ t < a + k
      · rw [if_pos g1, if_pos (by omega)]
      · by_cases g2 : b ≤ t ∧ t < b + k
        · rw [if_neg g1, if_pos g2, if_neg (by omega), if_pos (by omega)]
        · rw [if_neg g1, if_neg g2, if_neg (by omega), if_neg (by omega)]
theorem rot_eq (O : Nat → Nat) {m i : Nat} (hi : i ≤ m) : xch O (m - i) m i = rot O (m - i) m (m + i) := funext fun t => by
  unfold xch rot
  by_cases g1 : m - i ≤ t ∧ t < m - i + i
  · rw [if_pos g1, if_pos (by omega)]
  · by_cases g2 : m ≤ t ∧ t < m + i
    · rw [if_neg g1, if_pos g2, if_neg (by omega), if_pos (by omega)]; congr 1; omega
    · rw [if_neg g1, if_neg g2, if_neg (by omega), if_neg (by omega)]
/-- The left stretch is the longer one. -/
theorem rot_left (O : Nat → Nat) {m i j : Nat} (hi : i ≤ m) (h : j < i) : rot (xch O (m - i) m j) (m - (i - j)) m (m + j) = rot O (m - i) m (m + j) := funext fun t => by
  unfold rot xch
  by_cases g1 : m - i ≤ t ∧ t < m - i + j
  · rw [if_neg (by omega), if_neg (by omega), if_pos g1, if_pos (by omega)]
  · by_cases g2 : m - (i - j) ≤ t ∧ t < m - (i - j) + j
    · rw [if_pos (by omega), if_neg (by omega), if_pos (by omega), if_neg (by omega), if_pos (by omega)]
      congr 1; omega
    · by_cases g3 : m - (i - j) + j ≤ t ∧ t < m + j
      · rw [if_neg (by omega), if_pos (by omega), if_neg (by omega), if_neg (by omega), if_neg (by omega), if_pos (by omega)]
      · rw [if_neg (by omega), if_neg (by omega), if_neg g1, if_neg (by omega), if_neg (by omega), if_neg (by omega)]
/-- The right stretch is the longer one. -/
theorem rot_right (O : Nat → Nat) {m i j : Nat} (hi : i ≤ m) (h : i < j) : rot (xch O (m - i) (m + j - i) i) (m - i) m (m + (j - i)) = rot O (m - i) m (m + j) := funext fun t => by
  unfold rot xch
  by_cases g1 : m + j - i ≤ t ∧ t < m + j
  · rw [if_neg (by omega), if_neg (by omega), if_neg (by omega), if_pos (by omega), if_neg (by omega), if_pos (by omega)]
    congr 1; omega
  · by_cases g2 : m - i ≤ t ∧ t < m - i + (j - i)
    · rw [if_pos (by omega), if_neg (by omega), if_neg (by omega), if_pos (by omega)]
    · by_cases g3 : m - i + (j - i) ≤ t ∧ t < m + j - i
      · rw [if_neg (by omega), if_pos (by omega), if_pos (by omega)]
        by_cases g4 : t < m - i + j
        · rw [if_pos (by omega)]; congr 1; omega
        · rw [if_neg (by omega), if_pos (by omega)]; omega
      · rw [if_neg (by omega), if_neg (by omega), if_neg (by omega), if_neg (by omega), if_neg (by omega), if_neg (by omega)]
/-- What the halves of a merge must be. -/
def Mrg (ws O : Nat → Nat) (a m b : Nat) : Prop := Srt ws O a m ∧ Srt ws O m b ∧ ∀ p q, a ≤ p → p < m → m ≤ q → q < b → O p < O q
theorem Mrg.lt {ws O : Nat → Nat} {a m b p q : Nat} (h : Mrg ws O a m b) (hp : a ≤ p) (hp2 : p < m) (hq : m ≤ q) (hq2 : q < b) (hc : ¬ ws (O p) < ws (O q)) : Lt ws (O p) (O q) := by
  have := h.2.2 p q hp hp2 hq hq2
  unfold Lt; omega
theorem Mrg.rt {ws O : Nat → Nat} {p q : Nat} (hc : ws (O p) < ws (O q)) : Lt ws (O q) (O p) := Or.inl hc
theorem le_or {ws O : Nat → Nat} {a b i j : Nat} (h : Srt ws O a b) (hi : a ≤ i) (hij : i ≤ j) (hj : j < b) {x : Nat} (hx : Lt ws x (O i)) : Lt ws x (O j) := by
  by_cases e : i = j
  · rw [← e]; exact hx
  · exact hx.trans (h i j hi (by omega) hj)
theorem or_le {ws O : Nat → Nat} {a b i j : Nat} (h : Srt ws O a b) (hi : a ≤ i) (hij : i ≤ j) (hj : j < b) {x : Nat} (hx : Lt ws (O j) x) : Lt ws (O i) x := by
  by_cases e : i = j
  · rw [e]; exact hx
  · exact (h i j hi (by omega) hj).trans hx
/-- Where the cut of a merge lies: s of the left, e of the right. -/
def Cut (ws O : Nat → Nat) (a m b s e : Nat) : Prop :=
  (a ≤ s ∧ s ≤ m ∧ m ≤ e ∧ e ≤ b) ∧ (a < s → e < b → Lt ws (O (s - 1)) (O e)) ∧ (s < m → m < e → Lt ws (O (e - 1)) (O s))
/-- Behind the cut both halves are merges again, and the first stands before the second. -/
theorem Cut.halves {ws O : Nat → Nat} {a m b s e : Nat} (h : Mrg ws O a m b) (c : Cut ws O a m b s e) :
    Mrg ws (rot O s m e) a s (s + (e - m)) ∧ Mrg ws (rot O s m e) (s + (e - m)) e b ∧ ∀ p q, a ≤ p → p < s + (e - m) → s + (e - m) ≤ q → q < b → Lt ws (rot O s m e p) (rot O s m e q) := by
  obtain ⟨h1, h2, h3⟩ := h
  obtain ⟨⟨c1, c2, c3, c4⟩, c5, c6⟩ := c
  have r0 : ∀ t, t < s → rot O s m e t = O t := fun t ht => by unfold rot; rw [if_neg (by omega), if_neg (by omega)]
  have r1 : ∀ t, s ≤ t → t < s + (e - m) → rot O s m e t = O (t + (m - s)) := fun t h1 h2 => by unfold rot; rw [if_pos (by omega)]
  have r2 : ∀ t, s + (e - m) ≤ t → t < e → rot O s m e t = O (t - (e - m)) := fun t h1 h2 => by unfold rot; rw [if_neg (by omega), if_pos (by omega)]
  have r3 : ∀ t, e ≤ t → rot O s m e t = O t := fun t ht => by unfold rot; rw [if_neg (by omega), if_neg (by omega)]
  refine ⟨⟨fun i j hi hij hj => ?_, fun i j hi hij hj => ?_, fun p q hp hp2 hq hq2 => ?_⟩, ⟨fun i j hi hij hj => ?_, fun i j hi hij hj => ?_, fun p q hp hp2 hq hq2 => ?_⟩, fun p q hp hp2 hq hq2 => ?_⟩
  · rw [r0 i (by omega), r0 j (by omega)]; exact h1 i j hi hij (by omega)
  · rw [r1 i hi (by omega), r1 j (by omega) hj]; exact h2 _ _ (by omega) (by omega) (by omega)
  · rw [r0 p hp2, r1 q hq hq2]; exact h3 _ _ hp (by omega) (by omega) (by omega)
  · rw [r2 i hi (by omega), r2 j (by omega) hj]; exact h1 _ _ (by omega) (by omega) (by omega)
  · rw [r3 i hi, r3 j (by omega)]; exact h2 _ _ (by omega) hij hj
  · rw [r2 p hp hp2, r3 q hq]; exact h3 _ _ (by omega) (by omega) (by omega) hq2
  · by_cases g : p < s
    · rw [r0 p g]
      by_cases g2 : q < e
      · rw [r2 q hq g2]; exact h1 _ _ hp (by omega) (by omega)
      · rw [r3 q (by omega)]
        have := c5 (by omega) (by omega)
        exact or_le h1 hp (by omega) (by omega) (le_or h2 (by omega) (by omega) hq2 this)
    · rw [r1 p (by omega) hp2]
      by_cases g2 : q < e
      · rw [r2 q hq g2]
        have := c6 (by omega) (by omega)
        exact or_le h2 (by omega) (by omega) (by omega) (le_or h1 (by omega) (by omega) (by omega) this)
      · rw [r3 q (by omega)]
        exact h2 _ _ (by omega) (by omega) hq2
/-- Both halves sorted: all sorted. -/
theorem halves_join {ws O O2 O3 : Nat → Nat} {a k b n : Nat} (hx : ∀ p q, a ≤ p → p < k → k ≤ q → q < b → Lt ws (O p) (O q))
    (s2 : Seg O O2 a k n) (t2 : Srt ws O2 a k) (s3 : Seg O2 O3 k b n) (t3 : Srt ws O3 k b) : Srt ws O3 a b := by
  refine Srt.join (m := k) (t2.same fun i h1 h2 => s3.1 i (by omega)) t3 fun p q hp hp2 hq hq2 => ?_
  rw [s3.1 p (by omega)]
  have h1 : ∀ y, k ≤ y → y < b → Lt ws (O2 p) (O2 y) := fun y hy hy2 => by
    rw [s2.1 y (by omega)]
    exact s2.2.1 (fun v => Lt ws v (O y)) (fun i g1 g2 => hx i y g1 g2 hy hy2) p hp hp2
  exact s3.2.1 (fun v => Lt ws (O2 p) v) (fun i g1 g2 => h1 i g1 g2) q hq hq2
/-- A search by halves, between lo and hi: T says 'go on to the right'. -/
def Hlv (T : Nat → Prop) (lo hi i j : Nat) : Prop := (lo ≤ i ∧ i ≤ j ∧ j ≤ hi) ∧ (lo < i → T (i - 1)) ∧ (j < hi → ¬ T j)
theorem Hlv.start {T : Nat → Prop} {lo hi : Nat} (h : lo ≤ hi) : Hlv T lo hi lo hi := ⟨⟨Nat.le_refl _, h, Nat.le_refl _⟩, fun h => by omega, fun h => by omega⟩
theorem Hlv.right {T : Nat → Prop} {lo hi i j c : Nat} (h : Hlv T lo hi i j) (h1 : i ≤ c) (h2 : c < j) (ht : T c) : Hlv T lo hi (c + 1) j :=
  ⟨by have := h.1; omega, fun _ => by rw [Nat.add_sub_cancel]; exact ht, h.2.2⟩
theorem Hlv.left {T : Nat → Prop} {lo hi i j c : Nat} (h : Hlv T lo hi i j) (h1 : i ≤ c) (h2 : c < j) (ht : ¬ T c) : Hlv T lo hi i c :=
  ⟨by have := h.1; omega, h.2.1, fun _ => ht⟩
/-- What the search gives is a cut. -/
theorem hlv_cut {ws O : Nat → Nat} {a m b mid s lo hi : Nat} (h : Mrg ws O a m b) (hm : mid = (a + b) / 2) (h1 : a < m) (h2 : m < b) (hlo : lo = if mid < m then mid + m - b else a) (hhi : hi = if mid < m then mid else m)
    (c : Hlv (fun i => ¬ ws (O i) < ws (O (mid + m - 1 - i))) lo hi s s) : Cut ws O a m b s (mid + m - s) := by
  obtain ⟨⟨l1, l2, l3⟩, c1, c2⟩ := c
  dsimp only at c1 c2
  by_cases g : mid < m
  · rw [if_pos g] at hlo hhi
    refine ⟨by omega, fun h3 h4 => ?_, fun h3 h4 => ?_⟩
    · have := c1 (by omega)
      have e : mid + m - 1 - (s - 1) = mid + m - s := by omega
      rw [e] at this
      exact h.lt (by omega) (by omega) (by omega) (by omega) this
    · have := c2 (by omega)
      have e : mid + m - 1 - s = mid + m - s - 1 := by omega
      rw [e] at this
      exact Or.inl (Classical.not_not.1 this)
  · rw [if_neg g] at hlo hhi
    refine ⟨by omega, fun h3 h4 => ?_, fun h3 h4 => ?_⟩
    · have := c1 (by omega)
      have e : mid + m - 1 - (s - 1) = mid + m - s := by omega
      rw [e] at this
      exact h.lt (by omega) (by omega) (by omega) (by omega) this
    · have := c2 (by omega)
      have e : mid + m - 1 - s = mid + m - s - 1 := by omega
      rw [e] at this
      exact Or.inl (Classical.not_not.1 this)
/-- One element on the left: it moves to the right. -/
def shl (O : Nat → Nat) (a k : Nat) : Nat → Nat := fun t => if a ≤ t ∧ t < k then O (t + 1) else if t = k then O a else O t
theorem shl_zero (O : Nat → Nat) (a : Nat) : shl O a a = O := funext fun t => by
  unfold shl
  by_cases g : t = a
  · rw [if_neg (by omega), if_pos g, g]
  · rw [if_neg (by omega), if_neg g]
theorem shl_succ (O : Nat → Nat) {a k : Nat} (h : a ≤ k) : upd (upd (shl O a k) k (shl O a k (k + 1))) (k + 1) (shl O a k k) = shl O a (k + 1) := funext fun t => by
  have e1 : shl O a k k = O a := by unfold shl; rw [if_neg (by omega), if_pos rfl]
  have e2 : shl O a k (k + 1) = O (k + 1) := by unfold shl; rw [if_neg (by omega), if_neg (by omega)]
  rw [e1, e2]
  by_cases g1 : t = k + 1
  · rw [g1, upd_same]; unfold shl; rw [if_neg (by omega), if_pos rfl]
  · rw [upd_other g1]
    by_cases g2 : t = k
    · rw [g2, upd_same]; unfold shl; rw [if_pos (by omega)]
    · rw [upd_other g2]; unfold shl
      by_cases g3 : a ≤ t ∧ t < k
      · rw [if_pos g3, if_pos (by omega)]
      · rw [if_neg g3, if_neg g2, if_neg (by omega), if_neg g1]
theorem shl_srt {ws O : Nat → Nat} {a b i : Nat} (h : Srt ws O (a + 1) b) (hi : a + 1 ≤ i) (hb : i ≤ b) (h1 : a + 1 < i → Lt ws (O (i - 1)) (O a)) (h2 : i < b → Lt ws (O a) (O i)) : Srt ws (shl O a (i - 1)) a b := by
  have e1 : ∀ t, a ≤ t → t < i - 1 → shl O a (i - 1) t = O (t + 1) := fun t x y => by unfold shl; rw [if_pos ⟨x, y⟩]
  have e2 : shl O a (i - 1) (i - 1) = O a := by unfold shl; rw [if_neg (by omega), if_pos rfl]
  have e3 : ∀ t, i - 1 < t → shl O a (i - 1) t = O t := fun t x => by unfold shl; rw [if_neg (by omega), if_neg (by omega)]
  intro p q hp hpq hq
  by_cases g1 : q < i - 1
  · rw [e1 p hp (by omega), e1 q (by omega) g1]; exact h _ _ (by omega) (by omega) (by omega)
  · by_cases g2 : q = i - 1
    · rw [g2, e2, e1 p hp (by omega)]
      exact or_le h (by omega) (by omega : p + 1 ≤ i - 1) (by omega) (h1 (by omega))
    · rw [e3 q (by omega)]
      by_cases g3 : p < i - 1
      · rw [e1 p hp g3]; exact h _ _ (by omega) (by omega) hq
      · by_cases g4 : p = i - 1
        · rw [g4, e2]; exact le_or h hi (by omega) hq (h2 (by omega))
        · rw [e3 p (by omega)]; exact h _ _ (by omega) hpq hq
/-- One element on the right: it moves to the left; it stands at k. -/
def shr (O : Nat → Nat) (m k : Nat) : Nat → Nat := fun t => if t = k then O m else if k < t ∧ t ≤ m then O (t - 1) else O t
theorem shr_zero (O : Nat → Nat) (m : Nat) : shr O m m = O := funext fun t => by
  unfold shr
  by_cases g : t = m
  · rw [if_pos g, g]
  · rw [if_neg g, if_neg (by omega)]
theorem shr_succ (O : Nat → Nat) {m k : Nat} (h : k + 1 ≤ m) : upd (upd (shr O m (k + 1)) (k + 1) (shr O m (k + 1) k)) k (shr O m (k + 1) (k + 1)) = shr O m k := funext fun t => by
  have e1 : shr O m (k + 1) (k + 1) = O m := by unfold shr; rw [if_pos rfl]
  have e2 : shr O m (k + 1) k = O k := by unfold shr; rw [if_neg (by omega), if_neg (by omega)]
  rw [e1, e2]
  by_cases g1 : t = k
  · rw [g1, upd_same]; unfold shr; rw [if_pos rfl]
  · rw [upd_other g1]
    by_cases g2 : t = k + 1
    · rw [g2, upd_same]; unfold shr; rw [if_neg (by omega), if_pos (by omega)]; congr 1
    · rw [upd_other g2]; unfold shr
      by_cases g3 : k + 1 < t ∧ t ≤ m
      · rw [if_neg g2, if_pos g3, if_neg g1, if_pos (by omega)]
      · rw [if_neg g2, if_neg g3, if_neg g1, if_neg (by omega)]
theorem shr_srt {ws O : Nat → Nat} {a m i : Nat} (h : Srt ws O a m) (hi : a ≤ i) (hm : i ≤ m) (h1 : a < i → Lt ws (O (i - 1)) (O m)) (h2 : i < m → Lt ws (O m) (O i)) : Srt ws (shr O m i) a (m + 1) := by
  have e1 : ∀ t, t < i → shr O m i t = O t := fun t x => by unfold shr; rw [if_neg (by omega), if_neg (by omega)]
  have e2 : shr O m i i = O m := by unfold shr; rw [if_pos rfl]
  have e3 : ∀ t, i < t → t ≤ m → shr O m i t = O (t - 1) := fun t x y => by unfold shr; rw [if_neg (by omega), if_pos ⟨x, y⟩]
  intro p q hp hpq hq
  by_cases g1 : q < i
  · rw [e1 p (by omega), e1 q g1]; exact h _ _ hp hpq (by omega)
  · by_cases g2 : q = i
    · rw [g2, e2, e1 p (by omega)]
      exact or_le h hp (by omega : p ≤ i - 1) (by omega) (h1 (by omega))
    · rw [e3 q (by omega) (by omega)]
      by_cases g3 : p < i
      · rw [e1 p g3]; exact h _ _ hp (by omega) (by omega)
      · by_cases g4 : p = i
        · rw [g4, e2]; exact le_or h hi (by omega) (by omega) (h2 (by omega))
        · rw [e3 p (by omega) (by omega)]; exact h _ _ (by omega) (by omega) (by omega)
theorem hlv_one {ws O : Nat → Nat} {a b i : Nat} (h : Mrg ws O a (a + 1) b) (c : Hlv (fun i => ws (O a) < ws (O i)) (a + 1) b i i) : Srt ws (shl O a (i - 1)) a b := by
  obtain ⟨⟨l1, l2, l3⟩, c1, c2⟩ := c
  exact shl_srt h.2.1 l1 l3 (fun g => Or.inl (c1 g)) fun g => h.lt (Nat.le_refl _) (by omega) (by omega) g (c2 g)
theorem hlv_last {ws O : Nat → Nat} {a m i : Nat} (h : Mrg ws O a m (m + 1)) (c : Hlv (fun i => ¬ ws (O i) < ws (O m)) a m i i) : Srt ws (shr O m i) a (m + 1) := by
  obtain ⟨⟨l1, l2, l3⟩, c1, c2⟩ := c
  exact shr_srt h.1 l1 l3 (fun g => h.lt (by omega) (by omega) (Nat.le_refl _) (by omega) (c1 g)) fun g => Or.inl (Classical.not_not.1 (c2 g))
end Go.Proofs.Ytningajaimbncaa
