/- Plain facts on a core's controller: when its state is right, which vector it would deliver, what a step makes of it. No program in sight. -/
import Derived.Test.YtgddbmbljlngnaaDoorPlainB
namespace Go.Proofs.YtgddbmbljlngnaaDoor

theorem at_sorted (p : Nat → Bool) : (allOf p).Pairwise (· < ·) := List.Pairwise.filter p (List.pairwise_lt_range)
theorem at_mem (p : Nat → Bool) (n : Nat) : n ∈ allOf p ↔ n < 256 ∧ p n = true := by
  unfold allOf
  simp
theorem at_getD {l : List Nat} {k : Nat} (h : k < l.length) : l.getD k 0 = l[k] := by
  rw [List.getD_eq_getElem?_getD, List.getElem?_eq_getElem h]
  rfl
theorem at_is (p : Nat → Bool) (k : Nat) (hk : k < (allOf p).length) : p ((allOf p).getD k 0) = true ∧ (allOf p).getD k 0 < 256 := by
  rw [at_getD hk]
  have := (at_mem p _).1 (List.getElem_mem hk)
  exact ⟨this.2, this.1⟩
theorem at_lt (p : Nat → Bool) {i j : Nat} (hij : i < j) (hj : j < (allOf p).length) : (allOf p).getD i 0 < (allOf p).getD j 0 := by
  rw [at_getD hj, at_getD (by omega)]
  exact List.pairwise_iff_getElem.1 (at_sorted p) i j (by omega) hj hij
theorem at_find (p : Nat → Bool) (n : Nat) (hn : n < 256) (hp : p n = true) : ∃ k, k < (allOf p).length ∧ (allOf p).getD k 0 = n := by
  obtain ⟨k, hk, e⟩ := List.getElem_of_mem ((at_mem p n).2 ⟨hn, hp⟩)
  exact ⟨k, hk, by rw [at_getD hk, e]⟩

def clsB (c : Int) : Bool := decide (0 ≤ c) && decide (c < 16)
def lowB (p : Nat → Bool) : Bool := (List.range 32).all fun m => !p m
def diffB (q : Nat → Bool) : Bool := (List.range 256).all fun m => !q m || (List.range 256).all fun n => !(q n && decide (m / 16 = n / 16)) || decide (m = n)
/-- The state is right. -/
def rightB (p q : Nat → Bool) (c : Int) : Bool := clsB c && lowB p && lowB q && diffB q
/-- The vector that would be delivered, or -1. -/
def wouldOf (p q : Nat → Bool) (c : Int) : Int := if rightB p q c = true ∧ 0 ≤ topOf p ∧ c < topOf p / 16 ∧ (topOf q < 0 ∨ topOf q / 16 < topOf p / 16) then topOf p else -1

theorem clsB_iff (c : Int) : clsB c = true ↔ 0 ≤ c ∧ c < 16 := by simp [clsB]
theorem lowB_iff (p : Nat → Bool) : lowB p = true ↔ ∀ m, m < 32 → p m = false := by simp [lowB]
theorem diffB_iff (q : Nat → Bool) : diffB q = true ↔ ∀ m n, m < 256 → n < 256 → q m = true → q n = true → m / 16 = n / 16 → m = n := by
  unfold diffB
  rw [List.all_eq_true]
  constructor
  · intro h m n hm hn hqm hqn he
    have h1 := h m (by simpa using hm)
    rw [hqm, Bool.not_true, Bool.false_or, List.all_eq_true] at h1
    have h2 := h1 n (by simpa using hn)
    simpa [hqn, he] using h2
  · intro h m hm
    have hm' : m < 256 := by simpa using hm
    cases hqm : q m
    · rfl
    rw [Bool.not_true, Bool.false_or, List.all_eq_true]
    intro n hn
    have hn' : n < 256 := by simpa using hn
    cases hqn : q n <;> simp
    by_cases he : m / 16 = n / 16
    · right
      exact h m n hm' hn' hqm hqn he
    · left
      exact he
theorem rightB_iff (p q : Nat → Bool) (c : Int) : rightB p q c = true ↔ (0 ≤ c ∧ c < 16) ∧ (∀ m, m < 32 → p m = false) ∧ (∀ m, m < 32 → q m = false) ∧ (∀ m n, m < 256 → n < 256 → q m = true → q n = true → m / 16 = n / 16 → m = n) := by
  unfold rightB
  rw [Bool.and_eq_true, Bool.and_eq_true, Bool.and_eq_true, clsB_iff, lowB_iff, lowB_iff, diffB_iff]
  exact ⟨fun ⟨⟨⟨a, b⟩, c⟩, d⟩ => ⟨a, b, c, d⟩, fun ⟨a, b, c, d⟩ => ⟨⟨⟨a, b⟩, c⟩, d⟩⟩

/-- The first member tells whether all are allowed. -/
theorem low_next (p : Nat → Bool) : lowB p = (decide (nextOf p 0 < 0) || decide (32 ≤ nextOf p 0)) := by
  rw [Bool.eq_iff_iff, lowB_iff]
  rcases nextOf_cases p 0 with ⟨e, h⟩ | ⟨n, e, hn, hp, _, h⟩
  · rw [e]
    simp
    exact fun m hm => h m (by omega) (by omega)
  · rw [e]
    simp
    constructor
    · intro hl
      right
      by_cases hc : 32 ≤ n
      · omega
      · have := hl n (by omega)
        simp [hp] at this
    · rintro (hx | hx) m hm
      · omega
      · exact h m (by omega) (by omega)

/-- The class of the member before the k-th. -/
def lastCls (l : List Nat) (k : Nat) : Int := if k = 0 then -1 else ((l.getD (k - 1) 0 / 16 : Nat) : Int)
theorem lastCls_succ (l : List Nat) (k : Nat) : lastCls l (k + 1) = ((l.getD k 0 / 16 : Nat) : Int) := by simp [lastCls]
theorem diff_hit (q : Nat → Bool) (k : Nat) (hk : k < (allOf q).length) (h : (((allOf q).getD k 0 / 16 : Nat) : Int) = lastCls (allOf q) k) : diffB q = false := by
  rw [← Bool.not_eq_true, diffB_iff]
  intro hd
  unfold lastCls at h
  split at h
  · omega
  · have h1 := at_lt q (show k - 1 < k by omega) hk
    have h2 := at_is q (k - 1) (by omega)
    have h3 := at_is q k hk
    have := hd _ _ h2.2 h3.2 h2.1 h3.1 (by omega)
    omega
theorem diff_end (q : Nat → Bool) (h : ∀ k, k < (allOf q).length → (((allOf q).getD k 0 / 16 : Nat) : Int) ≠ lastCls (allOf q) k) : diffB q = true := by
  have key : ∀ m n, m < 256 → n < 256 → q m = true → q n = true → m / 16 = n / 16 → m < n → False := by
    intro m n hm hn hqm hqn he hlt
    obtain ⟨i, hi, ei⟩ := at_find q m hm hqm
    obtain ⟨j, hj, ej⟩ := at_find q n hn hqn
    have hij : i < j := by
      rcases Nat.lt_trichotomy i j with h1 | h1 | h1
      · exact h1
      · subst h1; omega
      · have := at_lt q h1 hi; omega
    have h1 := h j hj
    unfold lastCls at h1
    rw [if_neg (by omega)] at h1
    have h2 := at_lt q (show j - 1 < j by omega) hj
    have h3 : (allOf q).getD i 0 ≤ (allOf q).getD (j - 1) 0 := by
      by_cases hx : i = j - 1
      · rw [hx]; exact Nat.le_refl _
      · exact Nat.le_of_lt (at_lt q (show i < j - 1 by omega) (by omega))
    omega
  rw [diffB_iff]
  intro m n hm hn hqm hqn he
  rcases Nat.lt_trichotomy m n with h1 | h1 | h1
  · exact (key m n hm hn hqm hqn he h1).elim
  · exact h1
  · exact (key n m hn hm hqn hqm he.symm h1).elim

/-- What the largest member is. -/
theorem topOf_cases (p : Nat → Bool) : (topOf p = -1 ∧ ∀ m, m < 256 → p m = false) ∨ (∃ n : Nat, topOf p = n ∧ n < 256 ∧ p n = true ∧ ∀ m, n < m → m < 256 → p m = false) := by
  by_cases h : ∃ n, n < 256 ∧ p n = true
  · have key : ∀ N, N ≤ 256 → (∀ m, N ≤ m → m < 256 → p m = false) → ∃ n : Nat, n < 256 ∧ p n = true ∧ ∀ m, n < m → m < 256 → p m = false := by
      intro N
      induction N with
      | zero =>
        intro _ h0
        obtain ⟨n, hn, hp⟩ := h
        rw [h0 n (by omega) hn] at hp
        cases hp
      | succ N ih =>
        intro hN h0
        cases hp : p N
        · refine ih (by omega) (fun m h1 h2 => ?_)
          by_cases e : m = N
          · subst e; exact hp
          · exact h0 m (by omega) h2
        · exact ⟨N, by omega, hp, fun m h1 h2 => h0 m (by omega) h2⟩
    obtain ⟨n, hn, hp, ha⟩ := key 256 (by omega) (fun m h1 h2 => by omega)
    exact Or.inr ⟨n, topOf_some hn hp ha, hn, hp, ha⟩
  · have h0 : ∀ m, m < 256 → p m = false := fun m hm => by
      cases e : p m
      · rfl
      · exact (h ⟨m, hm, e⟩).elim
    exact Or.inl ⟨topOf_none h0, h0⟩
theorem topOf_ge (p : Nat → Bool) (m : Nat) (hm : m < 256) (hp : p m = true) : (m : Int) ≤ topOf p := by
  rcases topOf_cases p with ⟨_, h⟩ | ⟨n, e, hn, hpn, h⟩
  · rw [h m hm] at hp; cases hp
  · rw [e]
    by_cases hx : n < m
    · rw [h m hx hm] at hp; cases hp
    · omega

/-- A controller's state: eight words and a class. -/
structure St where
  a0 : Nat
  a1 : Nat
  a2 : Nat
  a3 : Nat
  s0 : Nat
  s1 : Nat
  s2 : Nat
  s3 : Nat
  c : Int
def St.p (s : St) : Nat → Bool := mem s.a0 s.a1 s.a2 s.a3
def St.q (s : St) : Nat → Bool := mem s.s0 s.s1 s.s2 s.s3
def St.Ok (s : St) : Prop := Go.Proofs.YtgddbmbljlngnaaDoor.Ok s.a0 s.a1 s.a2 s.a3 ∧ Go.Proofs.YtgddbmbljlngnaaDoor.Ok s.s0 s.s1 s.s2 s.s3
def St.right (s : St) : Bool := rightB s.p s.q s.c
def St.would (s : St) : Int := wouldOf s.p s.q s.c
def St.zero : St := ⟨0, 0, 0, 0, 0, 0, 0, 0, 0⟩
def St.ask (s : St) (n : Nat) : St := { s with a0 := up 0 n s.a0, a1 := up 1 n s.a1, a2 := up 2 n s.a2, a3 := up 3 n s.a3 }
def St.take (s : St) (n : Nat) : St := { s with a0 := dn 0 n s.a0, a1 := dn 1 n s.a1, a2 := dn 2 n s.a2, a3 := dn 3 n s.a3, s0 := up 0 n s.s0, s1 := up 1 n s.s1, s2 := up 2 n s.s2, s3 := up 3 n s.s3 }
def St.fin (s : St) (n : Nat) : St := { s with s0 := dn 0 n s.s0, s1 := dn 1 n s.s1, s2 := dn 2 n s.s2, s3 := dn 3 n s.s3 }
/-- What a step answers: the new state, a vector, an error. -/
def stepOf (s : St) (k n : Int) : St × Int × Int :=
  if s.right = false then (St.zero, 0, 1)
  else if k = 1 then (if n < 32 ∨ 256 ≤ n then (St.zero, 0, 2) else (s.ask n.toNat, -1, 0))
  else if k = 2 then (if s.would < 0 then (St.zero, 0, 7) else (s.take s.would.toNat, s.would, 0))
  else if k = 3 then (if topOf s.q < 0 then (St.zero, 0, 3) else (s.fin (topOf s.q).toNat, topOf s.q, 0))
  else if k = 4 then (if clsB n = false then (St.zero, 0, 2) else ({ s with c := n }, -1, 0))
  else (St.zero, 0, 5)
theorem topOf_lt (p : Nat → Bool) : -1 ≤ topOf p ∧ topOf p < 256 := by
  rcases topOf_cases p with ⟨e, _⟩ | ⟨n, e, hn, _⟩ <;> rw [e] <;> omega
theorem would_lt (s : St) : -1 ≤ s.would ∧ s.would < 256 := by
  have := topOf_lt s.p
  unfold St.would wouldOf
  split <;> omega
theorem St.zero_ok : St.zero.Ok := by
  unfold St.Ok St.zero Go.Proofs.YtgddbmbljlngnaaDoor.Ok
  decide
theorem step_ok (s : St) (k n : Int) (h : s.Ok) : (stepOf s k n).1.Ok := by
  unfold stepOf
  repeat' split
  all_goals first
    | exact St.zero_ok
    | exact ⟨h.1.up _, h.2⟩
    | exact ⟨h.1.dn _, h.2.up _⟩
    | exact ⟨h.1, h.2.dn _⟩
    | exact ⟨h.1, h.2⟩
end Go.Proofs.YtgddbmbljlngnaaDoor
