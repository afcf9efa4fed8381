/- Plain facts: an order found by looking for the next one again and again. No program in sight. -/
import Derived.Test.YtocemkbplgkalaaSprN
namespace Go.Proofs.Ytocemkbplgkalaa

/-- Among the first j of an order. -/
def InO (O : Nat → Nat) (j x : Nat) : Prop := ∃ i, i < j ∧ O i = x
/-- The next one, of the first k: none, or b. -/
def Sel (kw O : Nat → Nat) (j k : Nat) (r : Int) : Prop := (r = -1 ∧ ∀ x, x < k → InO O j x) ∨ ∃ b : Nat, r = b ∧ b < k ∧ ¬ InO O j b ∧ ∀ x, x < k → ¬ InO O j x → x = b ∨ Lt kw b x
theorem Sel.start (kw O : Nat → Nat) (j : Nat) : Sel kw O j 0 (-1) := Or.inl ⟨rfl, fun x h => by omega⟩
theorem Sel.skip {kw O : Nat → Nat} {j k : Nat} {r : Int} (h : Sel kw O j k r) (hk : InO O j k) : Sel kw O j (k + 1) r := by
  rcases h with ⟨rfl, h⟩ | ⟨b, rfl, h1, h2, h3⟩
  · exact Or.inl ⟨rfl, fun x hx => by
      by_cases e : x = k
      · rw [e]; exact hk
      · exact h x (by omega)⟩
  · exact Or.inr ⟨b, rfl, by omega, h2, fun x hx hn => by
      by_cases e : x = k
      · rw [e] at hn; exact absurd hk hn
      · exact h3 x (by omega) hn⟩
theorem Sel.first {kw O : Nat → Nat} {j k : Nat} (h : Sel kw O j k (-1)) (hk : ¬ InO O j k) : Sel kw O j (k + 1) (k : Int) := by
  rcases h with ⟨_, h⟩ | ⟨b, e, _⟩
  · exact Or.inr ⟨k, rfl, by omega, hk, fun x hx hn => by
      by_cases e : x = k
      · exact Or.inl e
      · exact absurd (h x (by omega)) hn⟩
  · omega
theorem Sel.better {kw O : Nat → Nat} {j k b : Nat} (h : Sel kw O j k (b : Int)) (hk : ¬ InO O j k) (hb : kw b < kw k) : Sel kw O j (k + 1) (k : Int) := by
  rcases h with ⟨e, _⟩ | ⟨c, e, h1, h2, h3⟩
  · omega
  · have : b = c := by omega
    subst this
    exact Or.inr ⟨k, rfl, by omega, hk, fun x hx hn => by
      by_cases e : x = k
      · exact Or.inl e
      · right
        rcases h3 x (by omega) hn with g | g
        · rw [g]; exact Or.inl hb
        · unfold Lt at *; omega⟩
theorem Sel.keep {kw O : Nat → Nat} {j k b : Nat} (h : Sel kw O j k (b : Int)) (hb : ¬ kw b < kw k) : Sel kw O j (k + 1) (b : Int) := by
  rcases h with ⟨e, _⟩ | ⟨c, e, h1, h2, h3⟩
  · omega
  · have : b = c := by omega
    subst this
    exact Or.inr ⟨b, rfl, by omega, h2, fun x hx hn => by
      by_cases e : x = k
      · right; rw [e]; unfold Lt; omega
      · exact h3 x (by omega) hn⟩
theorem Sel.range {kw O : Nat → Nat} {j k : Nat} {r : Int} (h : Sel kw O j k r) : r = -1 ∨ ∃ b : Nat, r = b ∧ b < k := by
  rcases h with ⟨e, _⟩ | ⟨b, e, h1, _⟩
  · exact Or.inl e
  · exact Or.inr ⟨b, e, h1⟩
/-- The first j are right. -/
def Ord (kw : Nat → Nat) (n : Nat) (O : Nat → Nat) (j : Nat) : Prop :=
  (∀ i, i < j → O i < n) ∧ (∀ i k, i < j → k < j → O i = O k → i = k) ∧ Srt kw O 0 j ∧ ∀ i, i < j → ∀ x, x < n → ¬ InO O j x → Lt kw (O i) x
theorem Ord.start (kw : Nat → Nat) (n : Nat) (O : Nat → Nat) : Ord kw n O 0 := ⟨fun i h => by omega, fun i k h => by omega, fun i k _ _ h => by omega, fun i h => by omega⟩
/-- Not all are among the first j. -/
theorem left_over {O : Nat → Nat} {n j : Nat} (hj : j < n) : ¬ ∀ x, x < n → InO O j x := by
  intro h
  have hf : ∃ I : Nat → Nat, ∀ x, x < n → I x < j ∧ O (I x) = x :=
    ⟨fun x => if hx : x < n then Classical.choose (h x hx) else 0, fun x hx => by
      simp only [dif_pos hx]
      exact Classical.choose_spec (h x hx)⟩
  obtain ⟨I, hI⟩ := hf
  have := sumF_inj (O := I) (n := j) (k := n) (fun _ => 1) (fun i hi => (hI i hi).1) (fun a b ha hb e => by rw [← (hI a ha).2, ← (hI b hb).2, e])
  simp only [sumF_const] at this
  omega
theorem Ord.step {kw O : Nat → Nat} {n j : Nat} {r : Int} (h : Ord kw n O j) (hj : j < n) (hs : Sel kw O j n r) : ∃ b : Nat, r = b ∧ b < n ∧ Ord kw n (upd O j b) (j + 1) := by
  obtain ⟨h1, h2, h3, h4⟩ := h
  rcases hs with ⟨_, hs⟩ | ⟨b, rfl, hb, hn, hx⟩
  · exact absurd hs (left_over hj)
  have e : ∀ i, i < j → upd O j b i = O i := fun i hi => upd_other (by omega)
  have hin : ∀ x, ¬ InO (upd O j b) (j + 1) x → ¬ InO O j x ∧ ¬ x = b := fun x hx => ⟨fun ⟨i, hi, ei⟩ => hx ⟨i, by omega, by rw [e i hi]; exact ei⟩, fun g => hx ⟨j, by omega, by rw [upd_same, g]⟩⟩
  refine ⟨b, rfl, hb, fun i hi => ?_, fun i k hi hk he => ?_, fun i k _ hik hk => ?_, fun i hi x hxn hxi => ?_⟩
  · by_cases g : i = j
    · rw [g, upd_same]; exact hb
    · rw [e i (by omega)]; exact h1 i (by omega)
  · by_cases g : i = j
    · by_cases g2 : k = j
      · omega
      · rw [g, upd_same, e k (by omega)] at he
        exact absurd ⟨k, by omega, he.symm⟩ hn
    · by_cases g2 : k = j
      · rw [g2, upd_same, e i (by omega)] at he
        exact absurd ⟨i, by omega, he⟩ hn
      · rw [e i (by omega), e k (by omega)] at he
        exact h2 i k (by omega) (by omega) he
  · by_cases g2 : k = j
    · rw [g2, upd_same, e i (by omega)]
      exact h4 i (by omega) b hb hn
    · rw [e i (by omega), e k (by omega)]
      exact h3 i k (Nat.zero_le _) hik (by omega)
  · obtain ⟨q1, q2⟩ := hin x hxi
    by_cases g : i = j
    · rw [g, upd_same]
      exact (hx x hxn q1).resolve_left q2
    · rw [e i (by omega)]
      exact h4 i (by omega) x hxn q1
theorem Ord.all {kw O : Nat → Nat} {n : Nat} (h : Ord kw n O n) : Perm O n ∧ Srt kw O 0 n := ⟨⟨h.1, h.2.1⟩, h.2.2.1⟩
/-- As they come. -/
theorem ord_id {O : Nat → Nat} {n : Nat} (h : Perm O n) (s : Srt (fun _ => 0) O 0 n) : ∀ i, i < n → O i = i :=
  srt_uniq h s (perm_id n) fun _ _ _ hij _ => Or.inr ⟨rfl, hij⟩
theorem plan2_congr {ws : Nat → Nat} {m n : Nat} {O K : Nat → Nat} (h : ∀ i, i < n → O i = K i) : (planP ws m O n).2 = (planP ws m K n).2 := by rw [planP_congr h]
end Go.Proofs.Ytocemkbplgkalaa
