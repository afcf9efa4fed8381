/- Plain facts on plans of work: sums, orders, who has what; Graham's two bounds. No program in sight. -/
import Derived.Test.YtningajaimbncaaSprB
namespace Go.Proofs.Ytningajaimbncaa

/-- A sum of the first k. -/
def sumF (f : Nat → Nat) : Nat → Nat
  | 0 => 0
  | k + 1 => sumF f k + f k
theorem sumF_congr {f g : Nat → Nat} : ∀ {k : Nat}, (∀ i, i < k → f i = g i) → sumF f k = sumF g k
  | 0, _ => rfl
  | k + 1, h => by rw [sumF, sumF, sumF_congr (k := k) fun i hi => h i (by omega), h k (by omega)]
theorem sumF_le {f g : Nat → Nat} : ∀ {k : Nat}, (∀ i, i < k → f i ≤ g i) → sumF f k ≤ sumF g k
  | 0, _ => Nat.le_refl _
  | k + 1, h => Nat.add_le_add (sumF_le fun i hi => h i (by omega)) (h k (by omega))
theorem sumF_add (f g : Nat → Nat) : ∀ k, sumF (fun i => f i + g i) k = sumF f k + sumF g k
  | 0 => rfl
  | k + 1 => by simp only [sumF]; rw [sumF_add f g k]; omega
theorem sumF_zero : ∀ k, sumF (fun _ => 0) k = 0
  | 0 => rfl
  | k + 1 => by simp only [sumF]; rw [sumF_zero k]
theorem sumF_const (v : Nat) : ∀ k, sumF (fun _ => v) k = k * v
  | 0 => by simp [sumF]
  | k + 1 => by simp only [sumF]; rw [sumF_const v k, Nat.add_mul]; omega
theorem sumF_mono {f : Nat → Nat} {j : Nat} : ∀ {k : Nat}, j ≤ k → sumF f j ≤ sumF f k
  | 0, h => by rw [show j = 0 by omega]; exact Nat.le_refl _
  | k + 1, h => by
    by_cases e : j = k + 1
    · rw [e]; exact Nat.le_refl _
    · have := sumF_mono (f := f) (show j ≤ k by omega)
      rw [sumF]; omega
/-- One number in a row of sums changes. -/
theorem sumF_upd (f : Nat → Nat) (i v : Nat) : ∀ k, i < k → sumF (upd f i v) k + f i = sumF f k + v
  | k + 1, h => by
    rw [sumF, sumF]
    by_cases e : i = k
    · subst e
      rw [upd_same, sumF_congr (g := f) fun x hx => upd_other (by omega)]
      omega
    · have := sumF_upd f i v k (by omega)
      rw [upd_other (fun q => e q.symm)]
      omega
/-- Different places of a row give no more than the row. -/
theorem sumF_inj {O : Nat → Nat} {n : Nat} : ∀ {k : Nat} (g : Nat → Nat), (∀ i, i < k → O i < n) → (∀ i j, i < k → j < k → O i = O j → i = j) → sumF (fun i => g (O i)) k ≤ sumF g n
  | 0, g, _, _ => Nat.zero_le _
  | k + 1, g, h1, h2 => by
    have h3 := sumF_inj (O := O) (n := n) (k := k) (upd g (O k) 0) (fun i hi => h1 i (by omega)) (fun i j hi hj => h2 i j (by omega) (by omega))
    rw [sumF_congr (g := fun i => g (O i)) fun i hi => upd_other fun e => by have := h2 i k (by omega) (by omega) e; omega] at h3
    have h4 := sumF_upd g (O k) 0 n (h1 k (by omega))
    rw [sumF]
    omega
/-- An order of the first n. -/
def Perm (O : Nat → Nat) (n : Nat) : Prop := (∀ i, i < n → O i < n) ∧ ∀ i j, i < n → j < n → O i = O j → i = j
theorem perm_id (n : Nat) : Perm (fun i => i) n := ⟨fun _ h => h, fun _ _ _ _ h => h⟩
theorem perm_sum {O : Nat → Nat} {n : Nat} (h : Perm O n) (g : Nat → Nat) : sumF (fun i => g (O i)) n = sumF g n := by
  have hM : ∃ M, ∀ i, i < n → g i ≤ M := ⟨maxF g n, fun i hi => maxF_ge hi⟩
  obtain ⟨M, hM⟩ := hM
  have h1 := sumF_inj g h.1 h.2
  have h2 := sumF_inj (fun i => M - g i) h.1 h.2
  have e1 : sumF (fun i => M - g i) n + sumF g n = n * M := by
    rw [← sumF_add, ← sumF_const]
    exact sumF_congr fun i hi => by have := hM i hi; omega
  have e2 : sumF (fun i => M - g (O i)) n + sumF (fun i => g (O i)) n = n * M := by
    rw [← sumF_add, ← sumF_const]
    exact sumF_congr fun i hi => by have := hM (O i) (h.1 i hi); omega
  omega
theorem perm_swap {O : Nat → Nat} {n a b : Nat} (h : Perm O n) (ha : a < n) (hb : b < n) : Perm (upd (upd O a (O b)) b (O a)) n := by
  have e : ∀ i, upd (upd O a (O b)) b (O a) i = O (if i = b then a else if i = a then b else i) := fun i => by
    unfold upd
    split
    · rfl
    · split <;> rfl
  refine ⟨fun i hi => ?_, fun i j hi hj hij => ?_⟩
  · rw [e]; apply h.1; split
    · exact ha
    · split
      · exact hb
      · exact hi
  · rw [e, e] at hij
    have := h.2 _ _ (by split; exact ha; split; exact hb; exact hi) (by split; exact ha; split; exact hb; exact hj) hij
    split at this <;> split at this <;> (try split at this) <;> (try split at this) <;> omega
/-- What a core has: its pieces' sum. -/
def lod (ws A : Nat → Nat) (c n : Nat) : Nat := sumF (fun i => if A i = c then ws i else 0) n
theorem one_sum (A : Nat) (w : Nat) : ∀ m, sumF (fun c => if A = c then w else 0) m = if A < m then w else 0
  | 0 => by simp [sumF]
  | m + 1 => by
    rw [sumF, one_sum A w m]
    by_cases h : A < m
    · rw [if_pos h, if_neg (by omega), if_pos (by omega)]; omega
    · by_cases h2 : A = m
      · rw [if_neg h, if_pos h2, if_pos (by omega)]; omega
      · rw [if_neg h, if_neg h2, if_neg (by omega)]
/-- All that the cores have is all that there is. -/
theorem lod_sum {ws A : Nat → Nat} {m : Nat} : ∀ {n : Nat}, (∀ i, i < n → A i < m) → sumF (fun c => lod ws A c n) m = sumF ws n
  | 0, _ => by simp only [lod, sumF]; exact sumF_zero m
  | n + 1, h => by
    have h1 := lod_sum (ws := ws) (A := A) (m := m) (n := n) fun i hi => h i (by omega)
    have h2 := one_sum (A n) (ws n) m
    rw [if_pos (h n (by omega))] at h2
    rw [show (fun c => lod ws A c (n + 1)) = fun c => lod ws A c n + (if A n = c then ws n else 0) from rfl, sumF_add, h1, h2]
    rfl
theorem lod_perm {O ws A : Nat → Nat} {n : Nat} (h : Perm O n) (c : Nat) : lod (fun i => ws (O i)) (fun i => A (O i)) c n = lod ws A c n :=
  perm_sum h fun i => if A i = c then ws i else 0
/-- A plan, told by who has which piece. -/
def Plans (ws : Nat → Nat) (m n v : Nat) (A : Nat → Nat) : Prop := (∀ i, i < n → A i < m) ∧ ∀ c, c < m → lod ws A c n ≤ v
def tailS (ws A : Nat → Nat) (c n : Nat) : Nat → Nat
  | 0 => 0
  | r + 1 => (if A (n - (r + 1)) = c then ws (n - (r + 1)) else 0) + tailS ws A c n r
theorem tailS_all (ws A : Nat → Nat) (c n : Nat) : ∀ r, r ≤ n → lod ws A c (n - r) + tailS ws A c n r = lod ws A c n
  | 0, _ => by simp [tailS]
  | r + 1, h => by
    have h1 := tailS_all ws A c n r (by omega)
    obtain ⟨k, hk⟩ : ∃ k, n - r = k + 1 := ⟨n - r - 1, by omega⟩
    rw [hk] at h1
    rw [tailS, show n - (r + 1) = k by omega]
    rw [show lod ws A c (k + 1) = lod ws A c k + (if A k = c then ws k else 0) from rfl] at h1
    omega
theorem tailS_congr {ws A B : Nat → Nat} {c n : Nat} : ∀ {r : Nat}, r ≤ n → (∀ i, n - r ≤ i → i < n → A i = B i) → tailS ws A c n r = tailS ws B c n r
  | 0, _, _ => rfl
  | r + 1, h, e => by rw [tailS, tailS, tailS_congr (r := r) (by omega) fun i h1 h2 => e i (by omega) h2, e (n - (r + 1)) (by omega) (by omega)]
theorem can_tail {ws : Nat → Nat} {m n v : Nat} : ∀ {r : Nat} {L : Nat → Nat}, r ≤ n → (Can ws m n r L v ↔ ∃ A : Nat → Nat, (∀ i, n - r ≤ i → i < n → A i < m) ∧ ∀ c, c < m → L c + tailS ws A c n r ≤ v)
  | 0, L, _ => ⟨fun h => ⟨fun _ => 0, fun i h1 h2 => by omega, h⟩, fun ⟨_, _, h⟩ => h⟩
  | r + 1, L, hr => by
    constructor
    · rintro ⟨d, hd, h⟩
      obtain ⟨A, h1, h2⟩ := (can_tail (by omega)).1 h
      refine ⟨upd A (n - (r + 1)) d, fun i hi hn => ?_, fun c hc => ?_⟩
      · by_cases e : i = n - (r + 1)
        · rw [e, upd_same]; exact hd
        · rw [upd_other e]; exact h1 i (by omega) hn
      · have h3 := h2 c hc
        rw [tailS, upd_same, tailS_congr (B := A) (by omega) fun i hi hn => upd_other (by omega)]
        by_cases e : d = c
        · subst e
          rw [upd_same] at h3
          rw [if_pos rfl]; omega
        · rw [upd_other (fun q => e q.symm)] at h3
          rw [if_neg e]; omega
    · rintro ⟨A, h1, h2⟩
      refine ⟨A (n - (r + 1)), h1 _ (by omega) (by omega), (can_tail (by omega)).2 ⟨A, fun i hi hn => h1 i (by omega) hn, fun c hc => ?_⟩⟩
      have h3 := h2 c hc
      rw [tailS] at h3
      by_cases e : A (n - (r + 1)) = c
      · rw [if_pos e] at h3
        rw [← e, upd_same]
        rw [← e] at h3
        omega
      · rw [if_neg e] at h3
        rw [upd_other (fun q => e q.symm)]
        omega
theorem can_plans {ws : Nat → Nat} {m n v : Nat} : Can ws m n n (fun _ => 0) v ↔ ∃ A, Plans ws m n v A := by
  rw [can_tail (Nat.le_refl n)]
  have e : ∀ A c, tailS ws A c n n = lod ws A c n := fun A c => by
    have := tailS_all ws A c n n (Nat.le_refl n)
    rw [Nat.sub_self, show lod ws A c 0 = 0 from rfl] at this
    omega
  constructor
  · rintro ⟨A, h1, h2⟩
    exact ⟨A, fun i hi => h1 i (by omega) hi, fun c hc => by have := h2 c hc; rw [e] at this; omega⟩
  · rintro ⟨A, h1, h2⟩
    exact ⟨A, fun i _ hi => h1 i hi, fun c hc => by have := h2 c hc; rw [e]; omega⟩
/-- What a plan can't be better than. -/
theorem plans_total {ws A : Nat → Nat} {m n v : Nat} (h : Plans ws m n v A) : sumF ws n ≤ m * v := by
  rw [← lod_sum h.1, ← sumF_const]
  exact sumF_le h.2
theorem le_sumF {f : Nat → Nat} : ∀ {n i : Nat}, i < n → f i ≤ sumF f n
  | n + 1, i, h => by
    rw [sumF]
    by_cases e : i = n
    · rw [e]; omega
    · have := le_sumF (f := f) (show i < n by omega)
      omega
theorem plans_piece {ws A : Nat → Nat} {m n v : Nat} (h : Plans ws m n v A) {i : Nat} (hi : i < n) : ws i ≤ v := by
  have h1 := le_sumF (f := fun x => if A x = A i then ws x else 0) hi
  simp only [if_true] at h1
  exact Nat.le_trans h1 (h.2 _ (h.1 i hi))
theorem plans_more {ws A : Nat → Nat} {m n v : Nat} (h : Plans ws m n v A) : Plans ws (m + 1) n v A := by
  refine ⟨fun i hi => by have := h.1 i hi; omega, fun c hc => ?_⟩
  by_cases e : c < m
  · exact h.2 c e
  · have : lod ws A c n = 0 := by
      rw [← sumF_zero n]
      exact sumF_congr fun i hi => if_neg (by have := h.1 i hi; omega)
    omega
section
variable {ws O : Nat → Nat} {m n : Nat}
/-- The core that gets the j-th piece of the order. -/
def cho (ws : Nat → Nat) (m : Nat) (O : Nat → Nat) (j : Nat) : Nat := amin (planP ws m O j).1 m
theorem cho_lt (hm : 0 < m) (j : Nat) : cho ws m O j < m := (amin_spec _ m hm).1
theorem loads_eq (c : Nat) : ∀ j, (planP ws m O j).1 c = lod (fun i => ws (O i)) (cho ws m O) c j
  | 0 => rfl
  | j + 1 => by
    show upd (planP ws m O j).1 (cho ws m O j) ((planP ws m O j).1 (cho ws m O j) + ws (O j)) c = lod (fun i => ws (O i)) (cho ws m O) c j + if cho ws m O j = c then ws (O j) else 0
    by_cases e : c = cho ws m O j
    · rw [e, upd_same, if_pos rfl, loads_eq _ j]
    · rw [upd_other e, if_neg (fun q => e q.symm), loads_eq _ j]; rfl
theorem core_eq (h : Perm O n) : ∀ {j i : Nat}, j ≤ n → i < j → (planP ws m O j).2 (O i) = cho ws m O i
  | j + 1, i, hj, hi => by
    show upd (planP ws m O j).2 (O j) (cho ws m O j) (O i) = _
    by_cases e : i = j
    · rw [e, upd_same]
    · rw [upd_other (fun q => e (h.2 _ _ (by omega) (by omega) q))]
      exact core_eq h (by omega) (by omega)
/-- The loads of a plan are its cores' sums. -/
theorem plan_lod (h : Perm O n) (c : Nat) : lod ws (planP ws m O n).2 c n = (planP ws m O n).1 c := by
  rw [loads_eq, ← lod_perm h]
  exact sumF_congr fun i hi => by simp only [core_eq h (Nat.le_refl n) hi]
theorem core_lt (hm : 0 < m) : ∀ j i, (planP ws m O j).2 i < m
  | 0, _ => hm
  | j + 1, i => by
    show upd (planP ws m O j).2 (O j) (cho ws m O j) i < m
    unfold upd
    split
    · exact cho_lt hm j
    · exact core_lt hm j i
/-- Most of a plan. -/
def mostP (ws : Nat → Nat) (m : Nat) (O : Nat → Nat) (n : Nat) : Nat := maxF (planP ws m O n).1 m
theorem plan_plans (hm : 0 < m) (h : Perm O n) : Plans ws m n (mostP ws m O n) (planP ws m O n).2 :=
  ⟨fun i _ => core_lt hm n i, fun c hc => by rw [plan_lod h]; exact maxF_ge hc⟩
theorem loads_total (hm : 0 < m) (j : Nat) : sumF (planP ws m O j).1 m = sumF (fun i => ws (O i)) j := by
  rw [sumF_congr (g := fun c => lod (fun i => ws (O i)) (cho ws m O) c j) fun c _ => loads_eq c j]
  exact lod_sum fun i _ => cho_lt hm i
theorem least_share (hm : 0 < m) (j : Nat) : m * (planP ws m O j).1 (cho ws m O j) ≤ sumF (fun i => ws (O i)) j := by
  rw [← loads_total hm, ← sumF_const]
  exact sumF_le fun c hc => (amin_spec _ m hm).2.1 c hc
/-- GRAHAM: no core has more than an even share and one piece. -/
theorem graham {M : Nat} (hm : 0 < m) : ∀ {j : Nat}, (∀ i, i < j → ws (O i) ≤ M) → ∀ c, m * (planP ws m O j).1 c ≤ sumF (fun i => ws (O i)) j + (m - 1) * M
  | 0, _, c => by show m * 0 ≤ _; omega
  | j + 1, h, c => by
    have h0 := graham hm (j := j) (fun i hi => h i (by omega)) c
    have h1 := least_share (ws := ws) (O := O) hm j
    have h2 := h j (by omega)
    show m * upd (planP ws m O j).1 (cho ws m O j) ((planP ws m O j).1 (cho ws m O j) + ws (O j)) c ≤ sumF (fun i => ws (O i)) j + ws (O j) + (m - 1) * M
    by_cases e : c = cho ws m O j
    · rw [e, upd_same, Nat.mul_add]
      obtain ⟨q, rfl⟩ : ∃ q, m = q + 1 := ⟨m - 1, by omega⟩
      have h3 : q * ws (O j) ≤ q * M := Nat.mul_le_mul_left _ h2
      rw [Nat.add_sub_cancel]
      rw [Nat.add_mul (q) 1 (ws (O j)), Nat.one_mul]
      omega
    · rw [upd_other e]; omega
/-- The piece that made a core's load. -/
theorem last_piece (c : Nat) : ∀ {j : Nat}, (planP ws m O j).1 c = 0 ∨ ∃ i, i < j ∧ (planP ws m O j).1 c = (planP ws m O i).1 (cho ws m O i) + ws (O i)
  | 0 => Or.inl rfl
  | j + 1 => by
    by_cases e : c = cho ws m O j
    · refine Or.inr ⟨j, by omega, ?_⟩
      show upd (planP ws m O j).1 (cho ws m O j) ((planP ws m O j).1 (cho ws m O j) + ws (O j)) c = _
      rw [e, upd_same]
    · have e2 : (planP ws m O (j + 1)).1 c = (planP ws m O j).1 c := upd_other e
      rw [e2]
      rcases last_piece c (j := j) with h | ⟨i, hi, h⟩
      · exact Or.inl h
      · exact Or.inr ⟨i, by omega, h⟩
/-- A piece that can't share a core with one of q counts two. -/
def wei (ws : Nat → Nat) (q v : Nat) (i : Nat) : Nat := if ws i + q ≤ v then 1 else 2
theorem wei_opt {ws A : Nat → Nat} {q v c : Nat} (h3 : v < 3 * q) : ∀ {k : Nat}, (∀ i, i < k → q ≤ ws i) →
    (lod (wei ws q v) A c k = 0 ∧ lod ws A c k = 0) ∨ (lod (wei ws q v) A c k = 1 ∧ q ≤ lod ws A c k) ∨ (lod (wei ws q v) A c k = 2 ∧ v < lod ws A c k + q) ∨ v < lod ws A c k
  | 0, _ => Or.inl ⟨rfl, rfl⟩
  | k + 1, h => by
    have h0 := wei_opt (A := A) (c := c) h3 (k := k) fun i hi => h i (by omega)
    have hq := h k (by omega)
    rw [show lod (wei ws q v) A c (k + 1) = lod (wei ws q v) A c k + (if A k = c then wei ws q v k else 0) from rfl, show lod ws A c (k + 1) = lod ws A c k + (if A k = c then ws k else 0) from rfl]
    by_cases e : A k = c
    · rw [if_pos e, if_pos e]
      unfold wei at *
      split <;> omega
    · rw [if_neg e, if_neg e]; omega
theorem wei_list {ws A : Nat → Nat} {q v c : Nat} (h1 : q ≤ v) : ∀ {k : Nat}, (lod (wei ws q v) A c k = 0 ∧ lod ws A c k = 0) ∨ (lod (wei ws q v) A c k = 1 ∧ lod ws A c k + q ≤ v) ∨ 2 ≤ lod (wei ws q v) A c k
  | 0 => Or.inl ⟨rfl, rfl⟩
  | k + 1 => by
    have h0 := wei_list (ws := ws) (A := A) (c := c) h1 (k := k)
    rw [show lod (wei ws q v) A c (k + 1) = lod (wei ws q v) A c k + (if A k = c then wei ws q v k else 0) from rfl, show lod ws A c (k + 1) = lod ws A c k + (if A k = c then ws k else 0) from rfl]
    by_cases e : A k = c
    · rw [if_pos e, if_pos e]
      unfold wei at *
      split <;> omega
    · rw [if_neg e, if_neg e]; omega
/-- Where every piece is more than a third of the best, the largest first is the best. -/
theorem third_big {B : Nat → Nat} {v j : Nat} (hm : 0 < m) (hq : ∀ i, i < j → ws (O j) ≤ ws (O i)) (h3 : v < 3 * ws (O j)) (hB : Plans (fun i => ws (O i)) m (j + 1) v B) :
    (planP ws m O j).1 (cho ws m O j) + ws (O j) ≤ v := by
  obtain ⟨q, hqe⟩ : ∃ q, ws (O j) = q := ⟨_, rfl⟩
  obtain ⟨u, hu⟩ : ∃ u : Nat → Nat, u = fun i => ws (O i) := ⟨_, rfl⟩
  have hqv : q ≤ v := by rw [← hqe]; exact plans_piece hB (i := j) (by omega)
  apply Classical.byContradiction
  intro hn
  -- the first j pieces count at least two a core
  have h1 : m * 2 ≤ sumF (wei u q v) j := by
    rw [← lod_sum (A := cho ws m O) (m := m) fun i _ => cho_lt hm i, ← sumF_const]
    refine sumF_le fun c hc => ?_
    have h2 : (planP ws m O j).1 (cho ws m O j) ≤ (planP ws m O j).1 c := (amin_spec _ m hm).2.1 c hc
    rw [loads_eq c, ← hu] at h2
    have h4 := wei_list (ws := u) (A := cho ws m O) (c := c) hqv (k := j)
    rw [hqe] at hn
    omega
  -- all j + 1 pieces count at most two a core
  have h2 : sumF (wei u q v) (j + 1) ≤ m * 2 := by
    rw [← lod_sum hB.1, ← sumF_const]
    refine sumF_le fun c hc => ?_
    have h4 := wei_opt (ws := u) (A := B) (q := q) (v := v) (c := c) (by omega) (k := j + 1) fun i hi => by
      rw [hu]
      by_cases e : i = j
      · rw [e, ← hqe]; exact Nat.le_refl _
      · rw [← hqe]; exact hq i (by omega)
    have h5 := hB.2 c hc
    rw [← hu] at h5
    omega
  have h3' : 1 ≤ wei u q v j := by unfold wei; split <;> omega
  rw [sumF] at h2
  omega
theorem lod_mono {ws A : Nat → Nat} {c j k : Nat} (h : j ≤ k) : lod ws A c j ≤ lod ws A c k := sumF_mono h
/-- GRAHAM: the largest first. -/
theorem third {v : Nat} (hm : 0 < m) (hO : Perm O n) (hs : ∀ i j, i ≤ j → j < n → ws (O j) ≤ ws (O i)) {A : Nat → Nat} (hA : Plans ws m n v A) : 3 * (m * mostP ws m O n) ≤ (4 * m - 1) * v := by
  have hB : Plans (fun i => ws (O i)) m n v (fun i => A (O i)) := ⟨fun i hi => hA.1 _ (hO.1 i hi), fun c hc => by rw [lod_perm hO]; exact hA.2 c hc⟩
  have key : ∀ c, 3 * (m * (planP ws m O n).1 c) ≤ (4 * m - 1) * v := by
    intro c
    rcases last_piece (ws := ws) (O := O) (m := m) c (j := n) with h | ⟨j, hj, h⟩
    · rw [h]; omega
    · have hBj : Plans (fun i => ws (O i)) m (j + 1) v (fun i => A (O i)) := ⟨fun i hi => hB.1 i (by omega), fun c hc => Nat.le_trans (lod_mono (by omega)) (hB.2 c hc)⟩
      rw [h]
      by_cases g : v < 3 * ws (O j)
      · have := third_big hm (fun i hi => hs i j (by omega) hj) g hBj
        have h2 : m * ((planP ws m O j).1 (cho ws m O j) + ws (O j)) ≤ m * v := Nat.mul_le_mul_left _ this
        have h3 : (4 * m - 1) * v = 3 * (m * v) + (m - 1) * v := by
          obtain ⟨q, rfl⟩ : ∃ q, m = q + 1 := ⟨m - 1, by omega⟩
          rw [show 4 * (q + 1) - 1 = 3 * (q + 1) + q by omega, Nat.add_mul, Nat.mul_assoc, Nat.add_sub_cancel]
        rw [h3]
        omega
      · have h1 := least_share (ws := ws) (O := O) hm j
        have h2 := plans_total hBj
        rw [sumF] at h2
        rw [Nat.mul_add]
        obtain ⟨q, rfl⟩ : ∃ q, m = q + 1 := ⟨m - 1, by omega⟩
        have h3 : (4 * (q + 1) - 1) * v = 3 * ((q + 1) * v) + q * v := by
          rw [show 4 * (q + 1) - 1 = 3 * (q + 1) + q by omega, Nat.add_mul, Nat.mul_assoc]
        have h4 : q * (3 * ws (O j)) ≤ q * v := Nat.mul_le_mul_left _ (by omega)
        have h5 : (q + 1) * ws (O j) = q * ws (O j) + ws (O j) := by rw [Nat.add_mul, Nat.one_mul]
        have h6 : q * (3 * ws (O j)) = 3 * (q * ws (O j)) := by rw [Nat.mul_left_comm]
        rw [h3, h5]
        omega
  obtain ⟨c, _, hc⟩ := maxF_mem (planP ws m O n).1 hm
  rw [mostP, hc]
  exact key c
end
end Go.Proofs.Ytningajaimbncaa
