/- Plain facts on sets of four 64-bit words: membership, union, intersection, the next member, the list of all members. No program in sight. -/
import Derived.Lib.TrailingZeros
import Derived.Lib.BitFns
namespace Go.Proofs.YtmldedkmmhnihaaDoor

/-- Word number k of four. -/
def word (a b c d k : Nat) : Nat := if k = 0 then a else if k = 1 then b else if k = 2 then c else if k = 3 then d else 0
/-- Is n in the set? -/
def mem (a b c d n : Nat) : Bool := (word a b c d (n / 64)).testBit (n % 64)
/-- Word number k behind 'with n', 'without n'. -/
def up (k n x : Nat) : Nat := if n / 64 = k then x ||| 2 ^ (n % 64) else x
def dn (k n x : Nat) : Nat := if n / 64 = k then x &&& (2 ^ 64 - (2 ^ (n % 64) + 1)) else x
def Ok (a b c d : Nat) : Prop := a < 2 ^ 64 ∧ b < 2 ^ 64 ∧ c < 2 ^ 64 ∧ d < 2 ^ 64

theorem two_lt (n : Nat) : 2 ^ (n % 64) < 2 ^ 64 := Nat.pow_lt_pow_right (by decide) (Nat.mod_lt _ (by decide))
theorem or_lt {x y : Nat} (h : x < 2 ^ 64) (h' : y < 2 ^ 64) : x ||| y < 2 ^ 64 := Nat.or_lt_two_pow h h'
theorem and_lt {x : Nat} (y : Nat) (h : x < 2 ^ 64) : x &&& y < 2 ^ 64 := Nat.lt_of_le_of_lt Nat.and_le_left h
theorem up_lt {k n x : Nat} (h : x < 2 ^ 64) : up k n x < 2 ^ 64 := by
  unfold up
  split
  · exact or_lt h (two_lt n)
  · exact h
theorem dn_lt {k n x : Nat} (h : x < 2 ^ 64) : dn k n x < 2 ^ 64 := by
  unfold dn
  split
  · exact and_lt _ h
  · exact h
theorem Ok.up {a b c d : Nat} (n : Nat) (h : Ok a b c d) : Ok (up 0 n a) (up 1 n b) (up 2 n c) (up 3 n d) := ⟨up_lt h.1, up_lt h.2.1, up_lt h.2.2.1, up_lt h.2.2.2⟩
theorem Ok.dn {a b c d : Nat} (n : Nat) (h : Ok a b c d) : Ok (dn 0 n a) (dn 1 n b) (dn 2 n c) (dn 3 n d) := ⟨dn_lt h.1, dn_lt h.2.1, dn_lt h.2.2.1, dn_lt h.2.2.2⟩
theorem Ok.both {a b c d a' b' c' d' : Nat} (h : Ok a b c d) : Ok (a &&& a') (b &&& b') (c &&& c') (d &&& d') := ⟨and_lt _ h.1, and_lt _ h.2.1, and_lt _ h.2.2.1, and_lt _ h.2.2.2⟩
theorem Ok.either {a b c d a' b' c' d' : Nat} (h : Ok a b c d) (h' : Ok a' b' c' d') : Ok (a ||| a') (b ||| b') (c ||| c') (d ||| d') := ⟨or_lt h.1 h'.1, or_lt h.2.1 h'.2.1, or_lt h.2.2.1 h'.2.2.1, or_lt h.2.2.2 h'.2.2.2⟩

theorem word_lt {a b c d : Nat} (h : Ok a b c d) (k : Nat) : word a b c d k < 2 ^ 64 := by
  obtain ⟨h0, h1, h2, h3⟩ := h
  unfold word
  repeat (split; assumption)
  exact Nat.two_pow_pos 64

theorem test_up (x n j : Nat) (k : Nat) (hj : j < 64) : (up k n x).testBit j = (x.testBit j || (decide (64 * k + j = n))) := by
  unfold up
  split
  · rename_i h
    rw [Nat.testBit_or, Nat.testBit_two_pow]
    congr 1
    apply decide_eq_decide.2
    omega
  · rename_i h
    have : ¬ (64 * k + j = n) := by omega
    simp [this]
theorem test_dn (x n j : Nat) (k : Nat) (hj : j < 64) : (dn k n x).testBit j = (x.testBit j && !(decide (64 * k + j = n))) := by
  unfold dn
  split
  · rename_i h
    rw [Nat.testBit_and, Nat.testBit_two_pow_sub_succ (two_lt n), Nat.testBit_two_pow]
    have e : (decide (n % 64 = j)) = (decide (64 * k + j = n)) := by apply decide_eq_decide.2; omega
    rw [e]
    simp [hj]
  · rename_i h
    have : ¬ (64 * k + j = n) := by omega
    simp [this]

theorem mem_up (a b c d n m : Nat) (hm : m < 256) : mem (up 0 n a) (up 1 n b) (up 2 n c) (up 3 n d) m = (mem a b c d m || decide (m = n)) := by
  have hj : m % 64 < 64 := Nat.mod_lt _ (by decide)
  have hk : m / 64 = 0 ∨ m / 64 = 1 ∨ m / 64 = 2 ∨ m / 64 = 3 := by omega
  unfold mem word
  rcases hk with h | h | h | h <;> simp only [h] <;> simp only [reduceIte, Nat.reduceEqDiff, Nat.one_ne_zero] <;> rw [test_up _ _ _ _ hj] <;> congr 1 <;> apply decide_eq_decide.2 <;> omega
theorem mem_dn (a b c d n m : Nat) (hm : m < 256) : mem (dn 0 n a) (dn 1 n b) (dn 2 n c) (dn 3 n d) m = (mem a b c d m && !decide (m = n)) := by
  have hj : m % 64 < 64 := Nat.mod_lt _ (by decide)
  have hk : m / 64 = 0 ∨ m / 64 = 1 ∨ m / 64 = 2 ∨ m / 64 = 3 := by omega
  unfold mem word
  rcases hk with h | h | h | h <;> simp only [h] <;> simp only [reduceIte, Nat.reduceEqDiff, Nat.one_ne_zero] <;> rw [test_dn _ _ _ _ hj] <;> congr 2 <;> apply decide_eq_decide.2 <;> omega
theorem mem_both (a b c d a' b' c' d' m : Nat) : mem (a &&& a') (b &&& b') (c &&& c') (d &&& d') m = (mem a b c d m && mem a' b' c' d' m) := by
  unfold mem word
  repeat (split; (rw [Nat.testBit_and]))
  simp
theorem mem_either (a b c d a' b' c' d' m : Nat) : mem (a ||| a') (b ||| b') (c ||| c') (d ||| d') m = (mem a b c d m || mem a' b' c' d' m) := by
  unfold mem word
  repeat (split; (rw [Nat.testBit_or]))
  simp
theorem mem_out {a b c d m : Nat} (hm : 256 ≤ m) : mem a b c d m = false := by
  unfold mem word
  rw [if_neg (by omega), if_neg (by omega), if_neg (by omega), if_neg (by omega)]
  simp

/-- Sets with the same members are the same words. -/
theorem word_ext {x y : Nat} (hx : x < 2 ^ 64) (hy : y < 2 ^ 64) (h : ∀ j, j < 64 → x.testBit j = y.testBit j) : x = y := by
  apply Nat.eq_of_testBit_eq
  intro i
  by_cases hi : i < 64
  · exact h i hi
  · rw [Nat.testBit_lt_two_pow (Nat.lt_of_lt_of_le hx (Nat.pow_le_pow_right (by decide) (by omega))), Nat.testBit_lt_two_pow (Nat.lt_of_lt_of_le hy (Nat.pow_le_pow_right (by decide) (by omega)))]
theorem set_ext {a b c d a' b' c' d' : Nat} (h : Ok a b c d) (h' : Ok a' b' c' d') (hm : ∀ m, m < 256 → mem a b c d m = mem a' b' c' d' m) : a = a' ∧ b = b' ∧ c = c' ∧ d = d' := by
  obtain ⟨h0, h1, h2, h3⟩ := h
  obtain ⟨g0, g1, g2, g3⟩ := h'
  refine ⟨word_ext h0 g0 fun j hj => ?_, word_ext h1 g1 fun j hj => ?_, word_ext h2 g2 fun j hj => ?_, word_ext h3 g3 fun j hj => ?_⟩
  · have := hm j (by omega)
    unfold mem word at this
    rw [show j / 64 = 0 by omega, show j % 64 = j by omega] at this
    simpa using this
  · have := hm (64 + j) (by omega)
    unfold mem word at this
    rw [show (64 + j) / 64 = 1 by omega, show (64 + j) % 64 = j by omega] at this
    simpa using this
  · have := hm (128 + j) (by omega)
    unfold mem word at this
    rw [show (128 + j) / 64 = 2 by omega, show (128 + j) % 64 = j by omega] at this
    simpa using this
  · have := hm (192 + j) (by omega)
    unfold mem word at this
    rw [show (192 + j) / 64 = 3 by omega, show (192 + j) % 64 = j by omega] at this
    simpa using this

/-- The first member from f on, or -1. -/
def nextOf (p : Nat → Bool) (f : Int) : Int := match (List.range 256).find? (fun n => p n && decide (f ≤ (n : Int))) with | some n => (n : Int) | none => -1
/-- The last member, or -1. -/
def topOf (p : Nat → Bool) : Int := match (List.range 256).reverse.find? p with | some n => (n : Int) | none => -1
/-- All members, rising. -/
def allOf (p : Nat → Bool) : List Nat := (List.range 256).filter p

theorem nextOf_none {p : Nat → Bool} {f : Int} (h : ∀ m : Nat, m < 256 → f ≤ (m : Int) → p m = false) : nextOf p f = -1 := by
  have e : (List.range 256).find? (fun n => p n && decide (f ≤ (n : Int))) = none := by
    rw [List.find?_eq_none]
    intro m hm
    have hm' : m < 256 := by simpa using hm
    by_cases hf : f ≤ (m : Int)
    · simp [h m hm' hf]
    · simp [hf]
  unfold nextOf
  rw [e]
theorem nextOf_some {p : Nat → Bool} {f : Int} {n : Nat} (hn : n < 256) (hp : p n = true) (hf : f ≤ (n : Int)) (h : ∀ m, m < n → f ≤ (m : Int) → p m = false) : nextOf p f = n := by
  have e : (List.range 256).find? (fun n => p n && decide (f ≤ (n : Int))) = some n := by
    rw [List.find?_range_eq_some]
    refine ⟨by simp [hp, hf], by simpa using hn, ?_⟩
    intro j hj
    by_cases hf' : f ≤ (j : Int)
    · simp [h j hj hf']
    · simp; right; omega
  unfold nextOf
  rw [e]
/-- What the next member is. -/
theorem nextOf_cases (p : Nat → Bool) (f : Int) : (nextOf p f = -1 ∧ ∀ m : Nat, m < 256 → f ≤ (m : Int) → p m = false) ∨ (∃ n : Nat, nextOf p f = n ∧ n < 256 ∧ p n = true ∧ f ≤ (n : Int) ∧ ∀ m, m < n → f ≤ (m : Int) → p m = false) := by
  unfold nextOf
  cases e : (List.range 256).find? (fun n => p n && decide (f ≤ (n : Int))) with
  | none =>
    left
    refine ⟨rfl, fun m hm hf => ?_⟩
    rw [List.find?_eq_none] at e
    have := e m (by simpa using hm)
    simpa [hf] using this
  | some n =>
    right
    rw [List.find?_range_eq_some] at e
    obtain ⟨h1, h2, h3⟩ := e
    simp at h1
    refine ⟨n, rfl, by simpa using h2, h1.1, h1.2, fun m hm hf => ?_⟩
    have := h3 m hm
    simpa [hf] using this

theorem topOf_none {p : Nat → Bool} (h : ∀ m, m < 256 → p m = false) : topOf p = -1 := by
  have e : (List.range 256).reverse.find? p = none := by
    rw [List.find?_eq_none]
    intro m hm
    have hm' : m < 256 := by simpa using hm
    simp [h m hm']
  unfold topOf
  rw [e]
theorem find_rev {p : Nat → Bool} : ∀ (N n : Nat), n < N → p n = true → (∀ m, n < m → m < N → p m = false) → (List.range N).reverse.find? p = some n
  | 0, n, h, _, _ => by omega
  | N + 1, n, h, hp, ha => by
    rw [List.range_succ, List.reverse_append, List.reverse_singleton, List.singleton_append, List.find?_cons]
    by_cases e : n = N
    · subst e
      simp [hp]
    · rw [ha N (by omega) (by omega)]
      exact find_rev N n (by omega) hp (fun m h1 h2 => ha m h1 (by omega))
theorem topOf_some {p : Nat → Bool} {n : Nat} (hn : n < 256) (hp : p n = true) (h : ∀ m, n < m → m < 256 → p m = false) : topOf p = n := by
  unfold topOf
  rw [find_rev 256 n hn hp h]
end Go.Proofs.YtmldedkmmhnihaaDoor
