/- Plain facts on how ticket.Right looks at the tickets, one core behind the other. No program in sight. -/
import Derived.Test.YtfepgebnaglkaaaTicQ
namespace Go.Proofs.Ytfepgebnaglkaaa

/-- The tickets are right. -/
def TickOk (l : LockT) : Prop := (∀ t, l.now ≤ t → t < l.next → ∃ c, c < 8 ∧ l.mine c = t) ∧ (∀ c, c < 8 → l.mine c = -1 ∨ (l.now ≤ l.mine c ∧ l.mine c < l.next)) ∧ ∀ c d, c < 8 → d < 8 → l.mine c = l.mine d → ¬ l.mine c = -1 → c = d
theorem tick_eight {l : LockT} (h : TickOk l) (h0 : 0 ≤ l.now) (h1 : l.now ≤ l.next) (h2 : l.next ≤ 1099511627776) : l.next - l.now ≤ 8 :=
  Rt.eight (l := { l with inn := fun _ => false }) ⟨h0, h1, h2, h.1, h.2.1, h.2.2, fun c _ e => by cases e⟩
/-- What is known behind the first k cores: D the tickets seen, n how many. -/
structure TkS (l : LockT) (k : Nat) (D : Nat → Bool) (n : Nat) : Prop where
  rng : ∀ c, c < k → l.mine c = -1 ∨ (l.now ≤ l.mine c ∧ l.mine c < l.next ∧ l.mine c < l.now + 8)
  one : ∀ c d, c < k → d < k → l.mine c = l.mine d → ¬ l.mine c = -1 → c = d
  dr : ∀ j, j < 8 → (D j = true ↔ ∃ c, c < k ∧ ¬ l.mine c = -1 ∧ l.mine c = l.now + j)
  cnt : n = hasT l.mine k
theorem tks_zero (l : LockT) : TkS l 0 (fun _ => false) 0 := ⟨fun c h => by omega, fun c d h => by omega, fun j _ => ⟨(fun h => by cases h), fun ⟨c, hc, _⟩ => by omega⟩, rfl⟩
theorem tks_none {l : LockT} {k n : Nat} {D : Nat → Bool} (h : TkS l k D n) (hm : l.mine k = -1) : TkS l (k + 1) D n := by
  refine ⟨fun c hc => ?_, fun c d hc hd => ?_, fun j hj => ?_, ?_⟩
  · by_cases e : c = k
    · rw [e]; exact Or.inl hm
    · exact h.rng c (by omega)
  · intro e1 e2
    have hck : ¬ c = k := by rintro rfl; exact e2 hm
    have hdk : ¬ d = k := by rintro rfl; exact e2 (e1.trans hm)
    exact h.one c d (by omega) (by omega) e1 e2
  · rw [h.dr j hj]
    constructor
    · rintro ⟨c, hc, g⟩; exact ⟨c, by omega, g⟩
    · rintro ⟨c, hc, g1, g2⟩
      have hck : ¬ c = k := by rintro rfl; exact g1 hm
      exact ⟨c, by omega, g1, g2⟩
  · have := h.cnt
    unfold hasT at this ⊢
    rw [sumF, if_pos hm]
    omega
theorem tks_next {l : LockT} {k n j : Nat} {D : Nat → Bool} (h : TkS l k D n) (hm : l.mine k = l.now + j) (hj : j < 8) (h0 : 0 ≤ l.now) (hx : l.now + j < l.next) (hD : D j = false) : TkS l (k + 1) (upB D j true) (n + 1) := by
  have hno : ∀ c, c < k → ¬ l.mine c = -1 → ¬ l.mine c = l.now + j := fun c hc h1 h2 => by
    have := (h.dr j hj).2 ⟨c, hc, h1, h2⟩
    rw [hD] at this; cases this
  refine ⟨fun c hc => ?_, fun c d hc hd => ?_, fun i hi => ?_, ?_⟩
  · by_cases e : c = k
    · rw [e, hm]; right; omega
    · exact h.rng c (by omega)
  · intro e1 e2
    by_cases hck : c = k
    · by_cases hdk : d = k
      · omega
      · subst hck
        rw [hm] at e1
        exact absurd e1.symm (hno d (by omega) (by omega))
    · by_cases hdk : d = k
      · subst hdk
        rw [hm] at e1
        exact absurd e1 (hno c (by omega) e2)
      · exact h.one c d (by omega) (by omega) e1 e2
  · by_cases e : i = j
    · rw [e, upB_same]
      exact ⟨fun _ => ⟨k, by omega, by omega, hm⟩, fun _ => rfl⟩
    · rw [upB_other e, h.dr i hi]
      constructor
      · rintro ⟨c, hc, g⟩; exact ⟨c, by omega, g⟩
      · rintro ⟨c, hc, g1, g2⟩
        have hck : ¬ c = k := by rintro rfl; omega
        exact ⟨c, by omega, g1, g2⟩
  · have := h.cnt
    unfold hasT at this ⊢
    rw [sumF, if_neg (by omega)]
    omega
theorem tks_low {l : LockT} {k : Nat} (hk : k < 8) (hm : ¬ l.mine k = -1) (h : l.mine k < l.now ∨ l.next ≤ l.mine k) : ¬ TickOk l := fun g => by
  have := g.2.1 k hk
  omega
theorem tks_far {l : LockT} {k : Nat} (hk : k < 8) (h0 : 0 ≤ l.now) (h1 : l.now ≤ l.next) (h2 : l.next ≤ 1099511627776) (h : l.now + 8 ≤ l.mine k) : ¬ TickOk l := fun g => by
  have := tick_eight g h0 h1 h2
  have := g.2.1 k hk
  omega
theorem tks_twice {l : LockT} {k n j : Nat} {D : Nat → Bool} (h : TkS l k D n) (hk : k < 8) (hm : l.mine k = l.now + j) (hj : j < 8) (hD : D j = true) : ¬ TickOk l := fun g => by
  obtain ⟨c, hc, g1, g2⟩ := (h.dr j hj).1 hD
  have := g.2.2 c k (by omega) hk (g2.trans hm.symm) g1
  omega
theorem sumF_full {f : Nat → Nat} : ∀ {n : Nat}, (∀ i, i < n → f i ≤ 1) → sumF f n = n → ∀ i, i < n → f i = 1
  | 0, _, _, i, h => by omega
  | n + 1, h1, h2, i, hi => by
    rw [sumF] at h2
    have hle : sumF f n ≤ n := by
      have := sumF_le (f := f) (g := fun _ => 1) (k := n) fun i hi => h1 i (by omega)
      rw [sumF_const] at this
      omega
    have := h1 n (by omega)
    by_cases e : i = n
    · rw [e]; omega
    · exact sumF_full (n := n) (fun i hi => h1 i (by omega)) (by omega) i (by omega)
theorem rowT_le_one {m : Nat → Int} {t : Int} : ∀ {k : Nat}, (∀ c d, c < k → d < k → m c = t → m d = t → c = d) → (rowT m t k).length ≤ 1 ∧ ((rowT m t k).length = 1 → ∃ c, c < k ∧ m c = t)
  | 0, _ => ⟨Nat.zero_le _, fun h => by cases h⟩
  | k + 1, h => by
    obtain ⟨h1, h2⟩ := rowT_le_one (m := m) (t := t) (k := k) fun c d hc hd => h c d (by omega) (by omega)
    rw [rowT, List.length_append]
    by_cases e : m k = t
    · rw [if_pos e]
      have h0 : (rowT m t k).length = 0 := by
        by_cases q : (rowT m t k).length = 1
        · obtain ⟨c, hc, g⟩ := h2 q
          have := h c k (by omega) (by omega) g e
          omega
        · omega
      rw [h0]
      exact ⟨by simp, fun _ => ⟨k, by omega, e⟩⟩
    · rw [if_neg e]
      exact ⟨by simpa using h1, fun q => by obtain ⟨c, hc, g⟩ := h2 (by simpa using q); exact ⟨c, by omega, g⟩⟩
/-- All cores looked at: the tickets are right if there are as many as given out. -/
theorem tks_end {l : LockT} {n : Nat} {D : Nat → Bool} (h : TkS l 8 D n) (h0 : 0 ≤ l.now) (h1 : l.now ≤ l.next) (h2 : l.next ≤ 1099511627776) : (n : Int) = l.next - l.now ↔ TickOk l := by
  obtain ⟨j, hj⟩ : ∃ j : Nat, l.next - l.now = j := ⟨(l.next - l.now).toNat, by omega⟩
  have hc := h.cnt
  constructor
  · intro e
    refine ⟨fun t g1 g2 => ?_, fun c hc => ?_, h.one⟩
    · have hlt : ∀ i, i < 8 → (fun i => if l.mine i = -1 then 0 else (l.mine i - l.now).toNat) i < j := fun i hi => by
        show (if l.mine i = -1 then 0 else (l.mine i - l.now).toNat) < j
        by_cases g : l.mine i = -1
        · rw [if_pos g]; omega
        · rw [if_neg g]; have := h.rng i hi; omega
      have hs := lod_sum (ws := fun c => if l.mine c = -1 then 0 else 1) (A := fun i => if l.mine i = -1 then 0 else (l.mine i - l.now).toNat) (m := j) (n := 8) hlt
      have hs2 : sumF (fun t => (rowT l.mine (l.now + t) 8).length) j = j := by
        have : sumF (fun t => (rowT l.mine (l.now + t) 8).length) j = sumF (fun c => lod (fun c => if l.mine c = -1 then 0 else 1) (fun i => if l.mine i = -1 then 0 else (l.mine i - l.now).toNat) c 8) j := sumF_congr fun t ht => by
          rw [rowT_len]
          show _ = sumF (fun i => if (if l.mine i = -1 then 0 else (l.mine i - l.now).toNat) = t then (if l.mine i = -1 then 0 else 1) else 0) 8
          refine sumF_congr fun i hi => ?_
          by_cases g : l.mine i = -1
          · simp only [if_pos g]
            rw [if_neg (show ¬ l.mine i = l.now + t by omega)]
            split <;> rfl
          · simp only [if_neg g]
            have := h.rng i hi
            by_cases q : l.mine i = l.now + t
            · rw [if_pos q, if_pos (by omega)]
            · rw [if_neg q, if_neg (by omega)]
        rw [this, hs]
        have : hasT l.mine 8 = n := hc.symm
        unfold hasT at this
        omega
      have hone : ∀ t : Nat, (rowT l.mine (l.now + t) 8).length ≤ 1 ∧ ((rowT l.mine (l.now + t) 8).length = 1 → ∃ c, c < 8 ∧ l.mine c = l.now + t) := fun t => rowT_le_one fun c d hc hd e1 e2 => h.one c d hc hd (e1.trans e2.symm) (by omega)
      have := sumF_full (fun i _ => (hone i).1) hs2 (t - l.now).toNat (by omega)
      obtain ⟨c, hc, g⟩ := (hone _).2 this
      exact ⟨c, hc, by omega⟩
    · have := h.rng c hc
      omega
  · intro g
    have := rt_has (l := { l with inn := fun _ => false }) ⟨h0, h1, h2, g.1, g.2.1, g.2.2, fun c _ e => by cases e⟩ (j := j) hj
    have e2 : hasT l.mine 8 = j := this
    omega
end Go.Proofs.Ytfepgebnaglkaaa
