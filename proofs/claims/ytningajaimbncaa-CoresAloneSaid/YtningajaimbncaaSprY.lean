/- Plain facts on a stable sort: blocks in order, a pass of merges. No program in sight. -/
import Derived.Test.YtningajaimbncaaSprS
namespace Go.Proofs.Ytningajaimbncaa

/-- What lies below T is given ahead of what lies from T on. -/
def Crs (O : Nat → Nat) (n T : Nat) : Prop := ∀ i j, i < T → T ≤ j → j < n → O i < O j
theorem Crs.seg {O O' : Nat → Nat} {n T a b : Nat} (h : Crs O n T) (g : Seg O O' a b n) (hT : T ≤ a ∨ b ≤ T) (hb : b ≤ n) : Crs O' n T := fun i j hi hj hjn => by
  rcases hT with hT | hT
  · rw [g.1 i (by omega)]
    by_cases e : a ≤ j ∧ j < b
    · exact g.2.1 (fun v => O i < v) (fun k k1 k2 => h i k hi (by omega) (by omega)) j e.1 e.2
    · rw [g.1 j e]; exact h i j hi hj hjn
  · rw [g.1 j (by omega)]
    by_cases e : a ≤ i ∧ i < b
    · exact g.2.1 (fun v => v < O j) (fun k k1 k2 => h k j (by omega) hj hjn) i e.1 e.2
    · rw [g.1 i e]; exact h i j hi hj hjn
theorem Srt.seg {ws O O' : Nat → Nat} {n a b c d : Nat} (h : Srt ws O c d) (g : Seg O O' a b n) (hd : d ≤ a ∨ b ≤ c) : Srt ws O' c d := h.same fun i h1 h2 => g.1 i (by omega)
/-- All blocks of s are in order. -/
def Blk (ws O : Nat → Nat) (n s : Nat) : Prop := (∀ t, Srt ws O (t * s) (min (t * s + s) n)) ∧ ∀ t, Crs O n (t * s)
theorem Blk.all {ws O : Nat → Nat} {n s : Nat} (h : Blk ws O n s) (hs : n ≤ s) : Srt ws O 0 n := by
  have := h.1 0
  rw [Nat.zero_mul, Nat.zero_add, Nat.min_eq_right hs] at this
  exact this
/-- The blocks of 20, one after the other: the first k are done. -/
def Ins (ws O : Nat → Nat) (n k : Nat) : Prop := ((∀ t, t < k → Srt ws O (t * 20) (t * 20 + 20)) ∧ ∀ t, Crs O n (t * 20)) ∧ (∀ i, k * 20 ≤ i → O i = i) ∧ Perm O n
theorem Ins.start (ws : Nat → Nat) (n : Nat) : Ins ws (fun i => i) n 0 :=
  ⟨⟨fun t h => by omega, fun t i j h1 h2 _ => by show i < j; omega⟩, fun _ _ => rfl, fun _ h => h, fun _ _ _ _ h => h⟩
theorem Ins.rest {ws O : Nat → Nat} {n k b : Nat} (h : Ins ws O n k) : ∀ p q, k * 20 ≤ p → p < q → q < b → O p < O q := fun p q h1 h2 _ => by
  rw [h.2.1 p h1, h.2.1 q (by omega)]; exact h2
theorem Ins.step {ws O O' : Nat → Nat} {n k : Nat} (h : Ins ws O n k) (g : Seg O O' (k * 20) (k * 20 + 20) n) (hb : k * 20 + 20 ≤ n) (hs : Srt ws O' (k * 20) (k * 20 + 20)) : Ins ws O' n (k + 1) :=
  ⟨⟨fun t ht => by
    by_cases e : t = k
    · rw [e]; exact hs
    · exact (h.1.1 t (by omega)).seg g (Or.inl (by omega)), fun t => (h.1.2 t).seg g (by omega) hb⟩, fun i hi => (g.1 i (by omega)).trans (h.2.1 i (by omega)), g.2.2 h.2.2⟩
theorem Ins.stop {ws O O' : Nat → Nat} {n k : Nat} (h : Ins ws O n k) (g : Seg O O' (k * 20) n n) (hb : k * 20 ≤ n) (hb2 : n < k * 20 + 20) (hs : Srt ws O' (k * 20) n) : Blk ws O' n 20 ∧ Perm O' n := by
  refine ⟨⟨fun t => ?_, fun t => ?_⟩, g.2.2 h.2.2⟩
  · by_cases e : t = k
    · rw [e, Nat.min_eq_right (by omega)]; exact hs
    · by_cases e2 : t < k
      · rw [Nat.min_eq_left (by omega)]
        exact (h.1.1 t e2).seg g (Or.inl (by omega))
      · intro i j h1 h2 h3
        have := Nat.min_le_right (t * 20 + 20) n
        omega
  · by_cases e : t * 20 ≤ k * 20
    · exact (h.1.2 t).seg g (Or.inl e) (Nat.le_refl _)
    · intro i j h1 h2 h3; omega
/-- A pass of merges: all below a = k * (2 * s) is done. -/
def Pas (ws O : Nat → Nat) (n s k : Nat) : Prop :=
  ((∀ t, t < k → Srt ws O (t * (2 * s)) (t * (2 * s) + 2 * s)) ∧ (∀ t, k * (2 * s) ≤ t * s → Srt ws O (t * s) (min (t * s + s) n))) ∧ ((∀ t, Crs O n (t * (2 * s))) ∧ ∀ t, k * (2 * s) ≤ t * s → Crs O n (t * s)) ∧ Perm O n
theorem mul2 (k s : Nat) : k * (2 * s) = 2 * k * s := by rw [← Nat.mul_assoc, Nat.mul_comm k 2]
theorem Pas.start {ws O : Nat → Nat} {n s : Nat} (h : Blk ws O n s) (hp : Perm O n) : Pas ws O n s 0 :=
  ⟨⟨fun t h => by omega, fun t _ => h.1 t⟩, ⟨fun t => by rw [mul2]; exact h.2 _, fun t _ => h.2 t⟩, hp⟩
theorem Pas.mrg {ws O : Nat → Nat} {n s k b : Nat} (h : Pas ws O n s k) (h1 : k * (2 * s) + s < n) (hb : b = min (k * (2 * s) + 2 * s) n) : Mrg ws O (k * (2 * s)) (k * (2 * s) + s) b := by
  have e1 : (2 * k) * s = k * (2 * s) := (mul2 k s).symm
  have e2 : (2 * k + 1) * s = k * (2 * s) + s := by rw [Nat.add_mul, Nat.one_mul, e1]
  have a1 := h.1.2 (2 * k) (by omega)
  have a2 := h.1.2 (2 * k + 1) (by omega)
  have a3 := h.2.1.2 (2 * k + 1) (by omega)
  rw [e1, Nat.min_eq_left (by omega)] at a1
  rw [e2] at a2 a3
  have e3 : min (k * (2 * s) + s + s) n = b := by rw [hb]; congr 1; omega
  rw [e3] at a2
  exact ⟨a1, a2, fun p q p1 p2 q1 q2 => a3 p q p2 q1 (by have := Nat.min_le_right (k * (2 * s) + 2 * s) n; omega)⟩
theorem Pas.step {ws O O' : Nat → Nat} {n s k : Nat} (h : Pas ws O n s k) (hb : k * (2 * s) + 2 * s ≤ n) (g : Seg O O' (k * (2 * s)) (k * (2 * s) + 2 * s) n) (hs : Srt ws O' (k * (2 * s)) (k * (2 * s) + 2 * s)) : Pas ws O' n s (k + 1) := by
  have e : (k + 1) * (2 * s) = k * (2 * s) + 2 * s := by rw [Nat.add_mul, Nat.one_mul]
  refine ⟨⟨fun t ht => ?_, fun t ht => (h.1.2 t (by omega)).seg g (Or.inr (by omega))⟩, ⟨fun t => (h.2.1.1 t).seg g ?_ hb, fun t ht => (h.2.1.2 t (by omega)).seg g (Or.inr (by omega)) hb⟩, g.2.2 h.2.2⟩
  · by_cases q : t = k
    · rw [q]; exact hs
    · refine (h.1.1 t (by omega)).seg g (Or.inl ?_)
      have : (t + 1) * (2 * s) ≤ k * (2 * s) := Nat.mul_le_mul_right _ (by omega)
      rw [Nat.add_mul, Nat.one_mul] at this
      omega
  · by_cases q : t ≤ k
    · exact Or.inl (Nat.mul_le_mul_right _ q)
    · have : (k + 1) * (2 * s) ≤ t * (2 * s) := Nat.mul_le_mul_right _ (by omega)
      exact Or.inr (by omega)
theorem Pas.stop {ws O O' : Nat → Nat} {n s k : Nat} (h : Pas ws O n s k) (hb : k * (2 * s) ≤ n) (hb2 : n < k * (2 * s) + 2 * s) (g : Seg O O' (k * (2 * s)) n n) (hs : Srt ws O' (k * (2 * s)) n) : Blk ws O' n (2 * s) ∧ Perm O' n := by
  refine ⟨⟨fun t => ?_, fun t => ?_⟩, g.2.2 h.2.2⟩
  · by_cases q : t = k
    · rw [q, Nat.min_eq_right (by omega)]; exact hs
    · by_cases q2 : t < k
      · have : (t + 1) * (2 * s) ≤ k * (2 * s) := Nat.mul_le_mul_right _ (by omega)
        rw [Nat.add_mul, Nat.one_mul] at this
        rw [Nat.min_eq_left (by omega)]
        exact (h.1.1 t q2).seg g (Or.inl (by omega))
      · have : (k + 1) * (2 * s) ≤ t * (2 * s) := Nat.mul_le_mul_right _ (by omega)
        rw [Nat.add_mul, Nat.one_mul] at this
        intro i j h1 h2 h3
        have := Nat.min_le_right (t * (2 * s) + 2 * s) n
        omega
  · by_cases q : t ≤ k
    · exact (h.2.1.1 t).seg g (Or.inl (Nat.mul_le_mul_right _ q)) (Nat.le_refl _)
    · have : (k + 1) * (2 * s) ≤ t * (2 * s) := Nat.mul_le_mul_right _ (by omega)
      rw [Nat.add_mul, Nat.one_mul] at this
      intro i j h1 h2 h3; omega
theorem Pas.last {ws O : Nat → Nat} {n s k : Nat} (h : Pas ws O n s k) (h1 : n ≤ k * (2 * s) + s) : Srt ws O (k * (2 * s)) n := by
  have a1 := h.1.2 (2 * k) (by rw [mul2]; exact Nat.le_refl _)
  rw [← mul2, Nat.min_eq_right h1] at a1
  exact a1
end Go.Proofs.Ytningajaimbncaa
