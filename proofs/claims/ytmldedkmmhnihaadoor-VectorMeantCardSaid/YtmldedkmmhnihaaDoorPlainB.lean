/- Plain facts: the lowest and the highest bit of a word; what bits.Next and bits.Top compute is the next and the last member. No program in sight. -/
import Derived.Test.YtmldedkmmhnihaaDoorPlain
namespace Go.Proofs.YtmldedkmmhnihaaDoor

theorem test_mul (k m i : Nat) : (2 ^ k * (2 * m + 1)).testBit i = (decide (k ≤ i) && (2 * m + 1).testBit (i - k)) := by
  rw [Nat.mul_comm, Nat.testBit_mul_two_pow]

/-- The lowest bit of a word that is not 0. -/
theorem ctz_spec (x : Nat) (h0 : x ≠ 0) (h : x < 2 ^ 64) : Lib.ctz 64 x < 64 ∧ x.testBit (Lib.ctz 64 x) = true ∧ ∀ i, i < Lib.ctz 64 x → x.testBit i = false := by
  have e : Lib.ctz 64 x = Lib.ctzFrom 64 x := by unfold Lib.ctz; rw [if_neg h0]
  rw [e]
  obtain ⟨m, hm, hk⟩ := Lib.ctzFrom_spec 64 x (by omega) h
  refine ⟨hk, ?_, fun i hi => ?_⟩
  · have : x.testBit (Lib.ctzFrom 64 x) = (2 ^ Lib.ctzFrom 64 x * (2 * m + 1)).testBit (Lib.ctzFrom 64 x) := by rw [← hm]
    rw [this, test_mul]
    simp [Nat.testBit_zero]
  · have : x.testBit i = (2 ^ Lib.ctzFrom 64 x * (2 * m + 1)).testBit i := by rw [← hm]
    rw [this, test_mul]
    have : ¬ (Lib.ctzFrom 64 x ≤ i) := by omega
    simp [this]

theorem bitLenAux_spec : ∀ (f x : Nat), x ≠ 0 → x < 2 ^ f → 1 ≤ Lib.bitLenAux f x ∧ Lib.bitLenAux f x ≤ f ∧ 2 ^ (Lib.bitLenAux f x - 1) ≤ x ∧ x < 2 ^ Lib.bitLenAux f x
  | 0, x, h0, h => by simp at h; omega
  | f + 1, x, h0, h => by
    have e : Lib.bitLenAux (f + 1) x = 1 + Lib.bitLenAux f (x / 2) := by rw [Lib.bitLenAux, if_neg h0]
    rw [e]
    by_cases h1 : x / 2 = 0
    · have : Lib.bitLenAux f (x / 2) = 0 := by
        rw [h1]
        cases f <;> simp [Lib.bitLenAux]
      rw [this]
      refine ⟨by omega, by omega, ?_, ?_⟩
      · simp; omega
      · simp; omega
    · obtain ⟨g1, g2, g3, g4⟩ := bitLenAux_spec f (x / 2) h1 (by rw [Nat.pow_succ] at h; omega)
      generalize Lib.bitLenAux f (x / 2) = q at *
      refine ⟨by omega, by omega, ?_, ?_⟩
      · obtain ⟨r, rfl⟩ : ∃ r, q = r + 1 := ⟨q - 1, by omega⟩
        have e1 : 1 + (r + 1) - 1 = r + 1 := by omega
        rw [e1, Nat.pow_succ]
        simp at g3
        omega
      · rw [Nat.add_comm, Nat.pow_succ]
        omega
/-- The highest bit of a word that is not 0. -/
theorem bitLen_spec (x : Nat) (h0 : x ≠ 0) (h : x < 2 ^ 64) : 1 ≤ Lib.bitLen x ∧ Lib.bitLen x ≤ 64 ∧ x.testBit (Lib.bitLen x - 1) = true ∧ ∀ i, Lib.bitLen x ≤ i → x.testBit i = false := by
  obtain ⟨g1, g2, g3, g4⟩ := bitLenAux_spec 64 x h0 h
  have e : Lib.bitLen x = Lib.bitLenAux 64 x := rfl
  rw [← e] at g1 g2 g3 g4
  generalize Lib.bitLen x = q at *
  refine ⟨g1, g2, ?_, fun i hi => ?_⟩
  · obtain ⟨r, rfl⟩ : ∃ r, q = r + 1 := ⟨q - 1, by omega⟩
    simp only [Nat.add_sub_cancel] at g3 ⊢
    rw [Nat.testBit_eq_decide_div_mod_eq]
    have : x / 2 ^ r = 1 := by
      apply Nat.div_eq_of_lt_le
      · omega
      · rw [Nat.pow_succ] at g4; omega
    rw [this]
    rfl
  · exact Nat.testBit_lt_two_pow (Nat.lt_of_lt_of_le g4 (Nat.pow_le_pow_right (by decide) hi))

/-- A word without the bits below i. -/
theorem test_mask (x i j : Nat) (hi : i < 64) (hj : j < 64) : (x &&& (2 ^ 64 - ((2 ^ i - 1) + 1))).testBit j = (x.testBit j && decide (i ≤ j)) := by
  have h1 : 2 ^ i < 2 ^ 64 := Nat.pow_lt_pow_right (by decide) hi
  have h2 : 0 < 2 ^ i := Nat.two_pow_pos i
  rw [Nat.testBit_and, Nat.testBit_two_pow_sub_succ (by omega), Nat.testBit_two_pow_sub_one]
  simp only [hj, decide_true, Bool.true_and]
  congr 1
  by_cases h : j < i
  · have : ¬ i ≤ j := by omega
    simp [h, this]
  · have : i ≤ j := by omega
    simp [h, this]

/-- What bits.Next scans: word k without what lies below, then the words behind it. -/
def scanned (a b c d k m i : Nat) : Nat := if i = k then m else word a b c d i

theorem next_gen {a b c d f k m j t : Nat} (hk : f / 64 = k) (hm : ∀ i, i < 64 → m.testBit i = ((word a b c d k).testBit i && decide (f % 64 ≤ i)))
    (hkj : k ≤ j) (hj : j < 4) (hz : ∀ i, k ≤ i → i < j → scanned a b c d k m i = 0) (ht64 : t < 64) (ht : (scanned a b c d k m j).testBit t = true) (hl : ∀ i, i < t → (scanned a b c d k m j).testBit i = false) :
    nextOf (mem a b c d) (f : Int) = ((64 * j + t : Nat) : Int) := by
  refine nextOf_some (by omega) ?_ ?_ ?_
  · unfold mem
    rw [show (64 * j + t) / 64 = j by omega, show (64 * j + t) % 64 = t by omega]
    unfold scanned at ht
    split at ht
    · rename_i e
      rw [hm t ht64] at ht
      rw [e]
      simp at ht
      exact ht.1
    · exact ht
  · unfold scanned at ht
    split at ht
    · rename_i e
      rw [hm t ht64] at ht
      simp at ht
      omega
    · omega
  · intro n hn hfn
    have hfn' : f ≤ n := by omega
    have hn64 : n % 64 < 64 := Nat.mod_lt _ (by decide)
    have key : (scanned a b c d k m (n / 64)).testBit (n % 64) = false := by
      by_cases e : n / 64 = j
      · rw [e]
        exact hl _ (by omega)
      · rw [hz (n / 64) (by omega) (by omega)]
        simp
    unfold mem
    unfold scanned at key
    split at key
    · rename_i e
      rw [hm _ hn64] at key
      rw [e]
      have : f % 64 ≤ n % 64 := by omega
      simpa [this] using key
    · exact key
theorem next_gen_none {a b c d f k m : Nat} (hk : f / 64 = k) (hm : ∀ i, i < 64 → m.testBit i = ((word a b c d k).testBit i && decide (f % 64 ≤ i)))
    (hz : ∀ i, k ≤ i → i < 4 → scanned a b c d k m i = 0) :
    nextOf (mem a b c d) (f : Int) = -1 := by
  refine nextOf_none ?_
  intro n hn hfn
  have hfn' : f ≤ n := by omega
  have hn64 : n % 64 < 64 := Nat.mod_lt _ (by decide)
  have key : (scanned a b c d k m (n / 64)).testBit (n % 64) = false := by
    rw [hz (n / 64) (by omega) (by omega)]
    simp
  unfold mem
  unfold scanned at key
  split at key
  · rename_i e
    rw [hm _ hn64] at key
    rw [e]
    have : f % 64 ≤ n % 64 := by omega
    simpa [this] using key
  · exact key

/-- The last member is in the highest word that is not 0. -/
theorem top_gen {a b c d j q : Nat} (hj : j < 4) (hz : ∀ i, j < i → i < 4 → word a b c d i = 0) (h1 : 1 ≤ q) (h64 : q ≤ 64) (ht : (word a b c d j).testBit (q - 1) = true) (hl : ∀ i, q ≤ i → (word a b c d j).testBit i = false) :
    topOf (mem a b c d) = ((64 * j + q - 1 : Nat) : Int) := by
  refine topOf_some (by omega) ?_ ?_
  · unfold mem
    rw [show (64 * j + q - 1) / 64 = j by omega, show (64 * j + q - 1) % 64 = q - 1 by omega]
    exact ht
  · intro n h2 h3
    unfold mem
    by_cases e : n / 64 = j
    · rw [e]
      exact hl _ (by omega)
    · rw [hz (n / 64) (by omega) (by omega)]
      simp
theorem top_gen_none {a b c d : Nat} (hz : ∀ i, i < 4 → word a b c d i = 0) : topOf (mem a b c d) = -1 := by
  refine topOf_none fun n hn => ?_
  unfold mem
  rw [hz (n / 64) (by omega)]
  simp

/-! The list of all members, one by one. -/
theorem filter_gap (p : Nat → Bool) (k : Nat) : ∀ n, k ≤ n → (∀ m, k ≤ m → m < n → p m = false) → (List.range n).filter p = (List.range k).filter p
  | 0, h, _ => by
    have : k = 0 := by omega
    rw [this]
  | n + 1, h, ha => by
    by_cases e : k = n + 1
    · rw [e]
    · rw [List.range_succ, List.filter_append, filter_gap p k n (by omega) (fun m h1 h2 => ha m h1 (by omega))]
      simp [ha n (by omega) (by omega)]
theorem filter_step (p : Nat → Bool) (k n : Nat) (hkn : k ≤ n) (hp : p n = true) (h : ∀ m, m < n → (k : Int) ≤ (m : Int) → p m = false) : (List.range (n + 1)).filter p = (List.range k).filter p ++ [n] := by
  rw [List.range_succ, List.filter_append, filter_gap p k n hkn (fun m h1 h2 => h m h2 (by omega))]
  simp [hp]
theorem filter_end (p : Nat → Bool) (k : Nat) (hk : k ≤ 256) (h : ∀ m : Nat, m < 256 → (k : Int) ≤ (m : Int) → p m = false) : allOf p = (List.range k).filter p :=
  filter_gap p k 256 hk (fun m h1 h2 => h m h2 (by omega))
theorem filter_len (p : Nat → Bool) (k : Nat) : ((List.range k).filter p).length ≤ k := by
  have := List.length_filter_le p (List.range k)
  simpa using this
theorem count_gen (p q : Nat → Bool) (l : List Nat) : (l.filter (fun n => p n || q n)).length + (l.filter (fun n => p n && q n)).length = (l.filter p).length + (l.filter q).length := by
  induction l with
  | nil => rfl
  | cons x r ih =>
    simp only [List.filter_cons]
    cases p x <;> cases q x <;> simp <;> omega
end Go.Proofs.YtmldedkmmhnihaaDoor
