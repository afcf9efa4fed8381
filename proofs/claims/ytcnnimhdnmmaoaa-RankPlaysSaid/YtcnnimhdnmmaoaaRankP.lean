/- Plain facts on locks with ranks: who holds, who waits; circles. No program in sight. -/
import Derived.Test.YtcnnimhdnmmaoaaSprM
namespace Go.Proofs.Ytcnnimhdnmmaoaa

structure RkT where
  hold : Nat → Int
  wait : Nat → Int
def upZ (f : Nat → Int) (i : Nat) (v : Int) : Nat → Int := fun j => if j = i then v else f j
theorem upZ_same (f : Nat → Int) (i : Nat) (v : Int) : upZ f i v i = v := if_pos rfl
theorem upZ_other {f : Nat → Int} {i j : Nat} {v : Int} (h : ¬ j = i) : upZ f i v j = f j := if_neg h
/-- Does th hold one of the first k locks that is above lk? -/
def hiK (f : Nat → Int) (th lk : Int) : Nat → Bool
  | 0 => false
  | k + 1 => hiK f th lk k || (decide (f k = th) && decide (lk < k))
theorem hiK_iff (f : Nat → Int) (th lk : Int) : ∀ k, hiK f th lk k = true ↔ ∃ l, l < k ∧ f l = th ∧ lk < (l : Int)
  | 0 => by simp [hiK]
  | k + 1 => by
    simp only [hiK, Bool.or_eq_true, Bool.and_eq_true, decide_eq_true_eq, hiK_iff f th lk k]
    constructor
    · rintro (⟨l, h1, h2, h3⟩ | ⟨h1, h2⟩)
      · exact ⟨l, by omega, h2, h3⟩
      · exact ⟨k, by omega, h1, h2⟩
    · rintro ⟨l, h1, h2, h3⟩
      by_cases e : l = k
      · rw [e] at h2 h3; exact Or.inr ⟨h2, h3⟩
      · exact Or.inl ⟨l, by omega, h2, h3⟩
/-- Which error an operation has; 0: none. -/
def errK (T K : Nat) (rk : Bool) (s : RkT) (kind th lk : Int) : Int :=
  if ¬ (kind = 1 ∨ kind = 2) then 5 else if th < 0 ∨ (T : Int) ≤ th ∨ lk < 0 ∨ (K : Int) ≤ lk then 2
  else if kind = 2 then (if ¬ s.hold lk.toNat = th ∨ ¬ s.wait th.toNat = -1 then 3 else 0)
  else if s.hold lk.toNat = th then 6 else if rk = true ∧ hiK s.hold th lk K = true then 8
  else if ¬ s.wait th.toNat = -1 ∧ ¬ s.wait th.toNat = lk then 3 else if ¬ s.hold lk.toNat = -1 then 7 else 0
/-- What an operation makes. -/
def newK (e : Int) (s : RkT) (kind th lk : Int) : RkT :=
  if e = 0 then (if kind = 2 then { s with hold := upZ s.hold lk.toNat (-1) } else ⟨upZ s.hold lk.toNat th, upZ s.wait th.toNat (-1)⟩)
  else if e = 7 then { s with wait := upZ s.wait th.toNat lk } else s
/-- What holds in a run. -/
structure InvK (T K : Nat) (rk : Bool) (s : RkT) : Prop where
  hr : ∀ l, l < K → s.hold l = -1 ∨ (0 ≤ s.hold l ∧ s.hold l < T)
  wr : ∀ t, t < T → s.wait t = -1 ∨ (0 ≤ s.wait t ∧ s.wait t < K)
  up : rk = true → ∀ t l, t < T → l < K → ¬ s.wait t = -1 → s.hold l = t → (l : Int) < s.wait t
def s0K : RkT := ⟨fun _ => -1, fun _ => -1⟩
theorem inv_s0 (T K : Nat) (rk : Bool) : InvK T K rk s0K := ⟨fun _ _ => Or.inl rfl, fun _ _ => Or.inl rfl, fun _ _ _ _ _ h => absurd rfl h⟩
/-- The ways of an operation. -/
theorem errK_ways (T K : Nat) (rk : Bool) (s : RkT) (kind th lk : Int) :
    (¬ errK T K rk s kind th lk = 0 ∧ ¬ errK T K rk s kind th lk = 7) ∨
    ∃ t l : Nat, th = t ∧ lk = l ∧ t < T ∧ l < K ∧
      ((kind = 2 ∧ errK T K rk s kind th lk = 0 ∧ s.hold l = t ∧ s.wait t = -1) ∨
       (kind = 1 ∧ ¬ s.hold l = t ∧ (rk = true → ∀ m, m < K → s.hold m = t → ¬ l < m) ∧ (s.wait t = -1 ∨ s.wait t = l) ∧
         ((errK T K rk s kind th lk = 0 ∧ s.hold l = -1) ∨ (errK T K rk s kind th lk = 7 ∧ ¬ s.hold l = -1)))) := by
  unfold errK
  by_cases g1 : ¬ (kind = 1 ∨ kind = 2)
  · rw [if_pos g1]; left; exact ⟨by decide, by decide⟩
  rw [if_neg g1]
  by_cases g2 : th < 0 ∨ (T : Int) ≤ th ∨ lk < 0 ∨ (K : Int) ≤ lk
  · rw [if_pos g2]; left; exact ⟨by decide, by decide⟩
  rw [if_neg g2]
  obtain ⟨t, rfl⟩ : ∃ t : Nat, th = t := ⟨th.toNat, by omega⟩
  obtain ⟨l, rfl⟩ : ∃ l : Nat, lk = l := ⟨lk.toNat, by omega⟩
  rw [Int.toNat_natCast, Int.toNat_natCast]
  by_cases g3 : kind = 2
  · rw [if_pos g3]
    by_cases g4 : ¬ s.hold l = t ∨ ¬ s.wait t = -1
    · rw [if_pos g4]; left; exact ⟨by decide, by decide⟩
    · rw [if_neg g4]
      right
      exact ⟨t, l, rfl, rfl, by omega, by omega, Or.inl ⟨g3, rfl, by omega, by omega⟩⟩
  · rw [if_neg g3]
    by_cases g5 : s.hold l = t
    · rw [if_pos g5]; left; exact ⟨by decide, by decide⟩
    rw [if_neg g5]
    by_cases g6 : rk = true ∧ hiK s.hold t l K = true
    · rw [if_pos g6]; left; exact ⟨by decide, by decide⟩
    rw [if_neg g6]
    by_cases g7 : ¬ s.wait t = -1 ∧ ¬ s.wait t = l
    · rw [if_pos g7]; left; exact ⟨by decide, by decide⟩
    rw [if_neg g7]
    right
    have hup : rk = true → ∀ m, m < K → s.hold m = t → ¬ l < m := fun hrk m hm hh hlt => g6 ⟨hrk, (hiK_iff _ _ _ _).2 ⟨m, hm, hh, by omega⟩⟩
    refine ⟨t, l, rfl, rfl, by omega, by omega, Or.inr ⟨by omega, g5, hup, by omega, ?_⟩⟩
    by_cases g8 : ¬ s.hold l = -1
    · rw [if_pos g8]; exact Or.inr ⟨rfl, g8⟩
    · rw [if_neg g8]; exact Or.inl ⟨rfl, by omega⟩
theorem new_no {e : Int} {s : RkT} {kind th lk : Int} (h0 : ¬ e = 0) (h7 : ¬ e = 7) : newK e s kind th lk = s := by unfold newK; rw [if_neg h0, if_neg h7]
theorem new_give (s : RkT) (t l : Nat) : newK 0 s 2 t l = { s with hold := upZ s.hold l (-1) } := by unfold newK; rw [if_pos rfl, if_pos rfl, Int.toNat_natCast]
theorem new_take (s : RkT) (t l : Nat) : newK 0 s 1 t l = ⟨upZ s.hold l t, upZ s.wait t (-1)⟩ := by unfold newK; rw [if_pos rfl, if_neg (by decide), Int.toNat_natCast, Int.toNat_natCast]
theorem new_wait (s : RkT) (k : Int) (t l : Nat) : newK 7 s k t l = { s with wait := upZ s.wait t l } := by unfold newK; rw [if_neg (by decide), if_pos rfl, Int.toNat_natCast]
theorem InvK.step {T K : Nat} {rk : Bool} {s : RkT} (h : InvK T K rk s) (kind th lk : Int) : InvK T K rk (newK (errK T K rk s kind th lk) s kind th lk) := by
  rcases errK_ways T K rk s kind th lk with ⟨h0, h7⟩ | ⟨t, l, rfl, rfl, ht, hl, ⟨rfl, e, h1, h2⟩ | ⟨rfl, h1, h2, h3, ⟨e, h4⟩ | ⟨e, h4⟩⟩⟩
  · rw [new_no h0 h7]; exact h
  · rw [e, new_give]
    refine ⟨fun m hm => ?_, h.wr, fun hk u m hu hm hw he => ?_⟩
    · simp only
      by_cases g : m = l
      · rw [g, upZ_same]; exact Or.inl rfl
      · rw [upZ_other g]; exact h.hr m hm
    · simp only at hw he ⊢
      by_cases g : m = l
      · rw [g, upZ_same] at he; omega
      · rw [upZ_other g] at he; exact h.up hk u m hu hm hw he
  · rw [e, new_take]
    refine ⟨fun m hm => ?_, fun u hu => ?_, fun hk u m hu hm hw he => ?_⟩
    · simp only
      by_cases g : m = l
      · rw [g, upZ_same]; right; omega
      · rw [upZ_other g]; exact h.hr m hm
    · simp only
      by_cases g : u = t
      · rw [g, upZ_same]; exact Or.inl rfl
      · rw [upZ_other g]; exact h.wr u hu
    · simp only at hw he ⊢
      by_cases g : u = t
      · rw [g, upZ_same] at hw; exact absurd rfl hw
      · rw [upZ_other g] at hw ⊢
        by_cases g2 : m = l
        · rw [g2, upZ_same] at he; omega
        · rw [upZ_other g2] at he; exact h.up hk u m hu hm hw he
  · rw [e, new_wait]
    refine ⟨h.hr, fun u hu => ?_, fun hk u m hu hm hw he => ?_⟩
    · simp only
      by_cases g : u = t
      · rw [g, upZ_same]; right; omega
      · rw [upZ_other g]; exact h.wr u hu
    · simp only at hw he ⊢
      by_cases g : u = t
      · rw [g] at he ⊢
        rw [upZ_same]
        have q := h2 hk m hm he
        have : ¬ m = l := by rintro rfl; exact h1 he
        omega
      · rw [upZ_other g] at hw ⊢
        exact h.up hk u m hu hm hw he
/-- Whose lock a thread waits for. -/
def sucK (T K : Nat) (s : RkT) (t : Nat) : Option Nat :=
  if s.wait t < 0 ∨ (K : Int) ≤ s.wait t ∨ s.hold (s.wait t).toNat < 0 ∨ (T : Int) ≤ s.hold (s.wait t).toNat then none else some (s.hold (s.wait t).toNat).toNat
theorem suc_some {T K : Nat} {s : RkT} {t u : Nat} (h : sucK T K s t = some u) : ∃ l : Nat, s.wait t = l ∧ l < K ∧ s.hold l = u ∧ u < T := by
  unfold sucK at h
  split at h
  · cases h
  · rename_i g
    have := Option.some.inj h
    refine ⟨(s.wait t).toNat, by omega, by omega, by omega, by omega⟩
theorem suc_of {T K : Nat} {s : RkT} {t u l : Nat} (hw : s.wait t = l) (hl : l < K) (hh : s.hold l = u) (hu : u < T) : sucK T K s t = some u := by
  unfold sucK
  rw [hw, Int.toNat_natCast, hh, if_neg (by omega), Int.toNat_natCast]
/-- k steps on. -/
def itK (T K : Nat) (s : RkT) (t : Nat) : Nat → Option Nat
  | 0 => some t
  | k + 1 => (itK T K s t k).bind (sucK T K s)
theorem it_first (T K : Nat) (s : RkT) (t : Nat) : ∀ k, itK T K s t (k + 1) = (sucK T K s t).bind fun u => itK T K s u k
  | 0 => by simp [itK]
  | k + 1 => by
    show (itK T K s t (k + 1)).bind (sucK T K s) = _
    rw [it_first T K s t k, Option.bind_assoc]
    rfl
theorem it_lt {T K : Nat} {s : RkT} {t u : Nat} (ht : t < T) : ∀ {k : Nat}, itK T K s t k = some u → u < T
  | 0, h => by have := Option.some.inj h; omega
  | k + 1, h => by
    obtain ⟨x, _, h2⟩ := Option.bind_eq_some_iff.1 h
    obtain ⟨_, _, _, _, h3⟩ := suc_some h2
    exact h3
theorem it_add {T K : Nat} {s : RkT} {t u : Nat} {a : Nat} (h : itK T K s t a = some u) : ∀ b, itK T K s t (a + b) = itK T K s u b
  | 0 => h
  | b + 1 => by
    show (itK T K s t (a + b)).bind _ = (itK T K s u b).bind _
    rw [it_add h b]
/-- With ranks locks rise along the way: nobody is come to again. -/
theorem rise {T K : Nat} {s : RkT} (h : InvK T K true s) {t : Nat} (ht : t < T) : ∀ {k u : Nat}, itK T K s t (k + 1) = some u → ¬ s.wait t = -1 ∧ ∀ v : Nat, sucK T K s u = some v → s.wait t < s.wait u
  | 0, u, e => by
    have e1 : sucK T K s t = some u := by simpa [itK] using e
    obtain ⟨l, h1, h2, h3, h4⟩ := suc_some e1
    refine ⟨by omega, fun v hv => ?_⟩
    obtain ⟨m, q1, _⟩ := suc_some hv
    have := h.up rfl u l h4 h2 (by omega) h3
    omega
  | k + 1, u, e => by
    obtain ⟨x, hx, e2⟩ := Option.bind_eq_some_iff.1 e
    obtain ⟨g1, g2⟩ := rise h ht (k := k) hx
    refine ⟨g1, fun v hv => ?_⟩
    have g3 := g2 u e2
    obtain ⟨l, h1, h2, h3, h4⟩ := suc_some e2
    obtain ⟨m, q1, _⟩ := suc_some hv
    have := h.up rfl u l h4 h2 (by omega) h3
    omega
theorem no_circle {T K : Nat} {s : RkT} (h : InvK T K true s) {t k : Nat} (ht : t < T) : ¬ itK T K s t (k + 1) = some t := by
  intro e
  have e1 := it_first T K s t k
  rw [e] at e1
  cases hs : sucK T K s t with
  | none => rw [hs] at e1; cases e1
  | some u =>
    have := (rise h ht e).2 u hs
    omega
/-- SOMEBODY CAN ALWAYS GO ON. -/
theorem some_free {T K : Nat} {s : RkT} (h : InvK T K true s) : ∀ (n t l : Nat), t < T → s.wait t = l → l < K → ¬ s.hold l = -1 → K ≤ l + n → ∃ t l u : Nat, t < T ∧ s.wait t = l ∧ l < K ∧ s.hold l = u ∧ u < T ∧ (s.wait u = -1 ∨ ∃ m : Nat, s.wait u = m ∧ m < K ∧ s.hold m = -1)
  | 0, t, l, _, _, h3, _, h5 => by omega
  | n + 1, t, l, h1, h2, h3, h4, h5 => by
    rcases h.hr l h3 with g | ⟨g1, g2⟩
    · exact absurd g h4
    obtain ⟨u, hu⟩ : ∃ u : Nat, s.hold l = u := ⟨(s.hold l).toNat, by omega⟩
    have huT : u < T := by omega
    by_cases q : s.wait u = -1
    · exact ⟨t, l, u, h1, h2, h3, hu, huT, Or.inl q⟩
    · rcases h.wr u huT with q2 | ⟨q2, q3⟩
      · exact absurd q2 q
      obtain ⟨m, hm⟩ : ∃ m : Nat, s.wait u = m := ⟨(s.wait u).toNat, by omega⟩
      by_cases q4 : s.hold m = -1
      · exact ⟨t, l, u, h1, h2, h3, hu, huT, Or.inr ⟨m, hm, by omega, q4⟩⟩
      · have := h.up rfl u l huT h3 q hu
        exact some_free h n u m huT hm (by omega) q4 (by omega)
/-- One operation of many; a run. -/
structure RopT where
  kind : Int
  th : Int
  lk : Int
def stepK (T K : Nat) (rk : Bool) (r : List Int × RkT) (o : RopT) : List Int × RkT := (r.1 ++ [errK T K rk r.2 o.kind o.th o.lk], newK (errK T K rk r.2 o.kind o.th o.lk) r.2 o.kind o.th o.lk)
def runK (T K : Nat) (rk : Bool) (ops : List RopT) : List Int × RkT := ops.foldl (stepK T K rk) ([], s0K)
theorem runK_snoc (T K : Nat) (rk : Bool) (ops : List RopT) (o : RopT) : runK T K rk (ops ++ [o]) = stepK T K rk (runK T K rk ops) o := by
  unfold runK; rw [List.foldl_append]; rfl
theorem inv_run (T K : Nat) (rk : Bool) (ops : List RopT) : InvK T K rk (runK T K rk ops).2 := by
  have : ∀ (ops : List RopT) (r : List Int × RkT), InvK T K rk r.2 → InvK T K rk (ops.foldl (stepK T K rk) r).2 := by
    intro ops
    induction ops with
    | nil => intro r h; exact h
    | cons o ops ih => intro r h; exact ih _ (h.step o.kind o.th o.lk)
  exact this ops _ (inv_s0 T K rk)
/-- What Circle must give: the least thread that is come to again, with the way; or nothing. -/
def CirIs (T K : Nat) (s : RkT) (p : List Nat) : Prop :=
  (p = [] ∧ ∀ t k, t < T → ¬ itK T K s t (k + 1) = some t) ∨
  ∃ f, p.head? = some f ∧ f < T ∧ (∀ i, i < p.length → itK T K s f i = p[i]?) ∧ itK T K s f p.length = some f ∧ (∀ i, 0 < i → i < p.length → ¬ itK T K s f i = some f) ∧ ∀ t k, t < f → ¬ itK T K s t (k + 1) = some t
theorem cir_uniq {T K : Nat} {s : RkT} {p q : List Nat} (hp : CirIs T K s p) (hq : CirIs T K s q) : p = q := by
  rcases hp with ⟨rfl, hp⟩ | ⟨f, p0, p1, p2, p3, p4, p5⟩
  · rcases hq with ⟨rfl, _⟩ | ⟨g, q0, q1, _, q3, _⟩
    · rfl
    · have hl : 0 < q.length := List.length_pos_of_mem (List.mem_of_mem_head? q0)
      obtain ⟨k, hk⟩ : ∃ k, q.length = k + 1 := ⟨q.length - 1, by omega⟩
      rw [hk] at q3
      exact absurd q3 (hp g k q1)
  · have hlp : 0 < p.length := List.length_pos_of_mem (List.mem_of_mem_head? p0)
    obtain ⟨k, hk⟩ : ∃ k, p.length = k + 1 := ⟨p.length - 1, by omega⟩
    rcases hq with ⟨rfl, hq⟩ | ⟨g, q0, q1, q2, q3, q4, q5⟩
    · rw [hk] at p3
      exact absurd p3 (hq f k p1)
    · have hlq : 0 < q.length := List.length_pos_of_mem (List.mem_of_mem_head? q0)
      obtain ⟨j, hj⟩ : ∃ j, q.length = j + 1 := ⟨q.length - 1, by omega⟩
      have hfg : f = g := by
        have h1 : ¬ f < g := fun h => by rw [hk] at p3; exact q5 f k h p3
        have h2 : ¬ g < f := fun h => by rw [hj] at q3; exact p5 g j h q3
        omega
      subst hfg
      have hlen : p.length = q.length := by
        have h1 : ¬ p.length < q.length := fun h => q4 _ hlp h p3
        have h2 : ¬ q.length < p.length := fun h => p4 _ hlq h q3
        omega
      refine List.ext_getElem? fun i => ?_
      by_cases hi : i < p.length
      · rw [← p2 i hi, ← q2 i (by omega)]
      · rw [List.getElem?_eq_none (by omega), List.getElem?_eq_none (by omega)]
/-- Who comes back, comes back within as many steps as there are threads. -/
theorem back_soon {T K : Nat} {s : RkT} {f : Nat} (hf : f < T) {k : Nat} (h : itK T K s f (k + 1) = some f) : ∃ j, 0 < j ∧ j ≤ T ∧ itK T K s f j = some f ∧ ∀ i, 0 < i → i < j → ¬ itK T K s f i = some f := by
  -- the first time
  have hfirst : ∃ j, (0 < j ∧ itK T K s f j = some f) ∧ ∀ i, i < j → ¬ (0 < i ∧ itK T K s f i = some f) := by
    have : ∀ n, (∃ j, j ≤ n ∧ 0 < j ∧ itK T K s f j = some f) → ∃ j, (0 < j ∧ itK T K s f j = some f) ∧ ∀ i, i < j → ¬ (0 < i ∧ itK T K s f i = some f) := by
      intro n
      induction n with
      | zero => rintro ⟨j, h1, h2, _⟩; omega
      | succ n ih =>
        rintro ⟨j, h1, h2, h3⟩
        by_cases g : ∃ i, i < j ∧ 0 < i ∧ itK T K s f i = some f
        · obtain ⟨i, g1, g2, g3⟩ := g
          exact ih ⟨i, by omega, g2, g3⟩
        · exact ⟨j, ⟨h2, h3⟩, fun i hi hh => g ⟨i, hi, hh⟩⟩
    exact this (k + 1) ⟨k + 1, Nat.le_refl _, by omega, h⟩
  obtain ⟨j, ⟨h1, h2⟩, h3⟩ := hfirst
  refine ⟨j, h1, ?_, h2, fun i g1 g2 g3 => h3 i g2 ⟨g1, g3⟩⟩
  -- all on the way are there, and different
  have hs : ∀ i, i ≤ j → ∃ u, itK T K s f i = some u := fun i hi => by
    cases e : itK T K s f i with
    | some u => exact ⟨u, rfl⟩
    | none =>
      have hn : ∀ b, itK T K s f (i + b) = none := fun b => by
        induction b with
        | zero => exact e
        | succ b ih => show (itK T K s f (i + b)).bind _ = none; rw [ih]; rfl
      have := hn (j - i)
      rw [show i + (j - i) = j by omega, h2] at this
      cases this
  have hI : ∃ I : Nat → Nat, ∀ i, i < j → itK T K s f i = some (I i) :=
    ⟨fun i => if hi : i < j then Classical.choose (hs i (by omega)) else 0, fun i hi => by
      simp only [dif_pos hi]
      exact Classical.choose_spec (hs i (by omega))⟩
  obtain ⟨I, hI⟩ := hI
  have := sumF_inj (O := I) (n := T) (k := j) (fun _ => 1) (fun i hi => it_lt hf (hI i hi)) (fun a b ha hb e => by
    have key : ∀ a b, a < j → b < j → I a = I b → ¬ a < b := by
      intro a b ha hb e hab
      -- from b the way back is as long as from a
      have e1 := it_add (hI a ha) (j - b)
      have e2 := it_add (hI b hb) (j - b)
      rw [show b + (j - b) = j by omega, h2, ← e, ← e1] at e2
      exact h3 (a + (j - b)) (by omega) ⟨by omega, e2.symm⟩
    have q1 := key a b ha hb e
    have q2 := key b a hb ha e.symm
    omega)
  simp only [sumF_const] at this
  omega
end Go.Proofs.Ytcnnimhdnmmaoaa
