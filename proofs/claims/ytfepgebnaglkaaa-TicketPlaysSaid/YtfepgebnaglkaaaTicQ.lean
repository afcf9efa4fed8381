/- Plain facts on ticket locks: who looks and frees in turn; the queue of those that wait, as a list. No program in sight. -/
import Derived.Test.YtfepgebnaglkaaaTicP
namespace Go.Proofs.Ytfepgebnaglkaaa

/-- A step that does nothing where something speaks against it. -/
def tryT (l : LockT) (k : Int) (c : Nat) : LockT := if errT true l k c = 0 then newT l k c else l
theorem errT_ok {l : LockT} {k : Int} {c : Nat} (h : OkT l k c) : errT true l k c = 0 := by
  obtain ⟨hc, h⟩ := h
  unfold errT
  rw [if_neg (by decide), if_neg (by omega), if_neg (by omega), Int.toNat_natCast]
  rcases h with ⟨rfl, h1, h2⟩ | ⟨rfl, h1⟩ | ⟨rfl, h1⟩
  · rw [if_neg (by rintro ⟨_, q⟩; exact q h1), if_neg (by omega), if_neg (by omega)]
  · rw [if_neg (by omega), if_neg (by omega), if_neg]
    rintro (⟨_, q⟩ | ⟨q, _⟩)
    · exact h1 q
    · omega
  · rw [if_neg (by omega), if_neg (by omega), if_neg]
    rintro (⟨q, _⟩ | ⟨_, q⟩)
    · omega
    · rw [h1] at q; cases q
theorem try_ok {l : LockT} {k : Int} {c : Nat} (h : OkT l k c) : tryT l k c = newT l k c := if_pos (errT_ok h)
theorem try_no {l : LockT} {k : Int} {c : Nat} (hr : Rt l) (h : ¬ OkT l k c) : tryT l k c = l := if_neg fun e => by
  obtain ⟨n, hn, ho⟩ := errT_zero hr e
  have : n = c := by omega
  rw [this] at ho
  exact h ho
theorem try_rt {l : LockT} {k : Int} {c : Nat} (hr : Rt l) : Rt (tryT l k c) := by
  by_cases h : OkT l k c
  · rw [try_ok h]; exact hr.step h
  · rw [try_no hr h]; exact hr
/-- Core c looks, and frees. -/
def visit (l : LockT) (c : Nat) : LockT := tryT (tryT l 2 c) 3 c
theorem visit_rt {l : LockT} (hr : Rt l) (c : Nat) : Rt (visit l c) := try_rt (try_rt hr)
theorem visit_next {l : LockT} (hr : Rt l) (c : Nat) : (visit l c).next = l.next := by
  have h1 : (tryT l 2 c).next = l.next := by
    by_cases h : OkT l 2 c
    · rw [try_ok h, new_look]
    · rw [try_no hr h]
  have hr2 := try_rt (k := 2) (c := c) hr
  unfold visit
  by_cases h : OkT (tryT l 2 c) 3 c
  · rw [try_ok h, new_free]; exact h1
  · rw [try_no hr2 h]; exact h1
/-- Whose turn it is, is through behind a visit. -/
theorem visit_turn {l : LockT} {c : Nat} (hc : c < 8) (h : l.mine c = l.now) (h0 : ¬ l.mine c = -1) : (visit l c).now = l.now + 1 := by
  have h1 : OkT l 2 c := ⟨hc, Or.inr (Or.inl ⟨rfl, h0⟩)⟩
  unfold visit
  rw [try_ok h1]
  have h2 : OkT (newT l 2 c) 3 c := ⟨hc, Or.inr (Or.inr ⟨rfl, by rw [new_look]; simp only [upB_same]; exact decide_eq_true h⟩)⟩
  rw [try_ok h2, new_free, new_look]
/-- Others stay as they are. -/
theorem visit_other {l : LockT} (hr : Rt l) {c : Nat} (h : ¬ (c < 8 ∧ l.mine c = l.now ∧ ¬ l.mine c = -1)) : (visit l c).now = l.now ∧ (visit l c).mine = l.mine := by
  unfold visit
  by_cases h1 : OkT l 2 c
  · obtain ⟨hc, ⟨q, _⟩ | ⟨_, hm⟩ | ⟨q, _⟩⟩ := h1
    · omega
    · have hn : ¬ l.mine c = l.now := fun q => h ⟨hc, q, hm⟩
      rw [try_ok ⟨hc, Or.inr (Or.inl ⟨rfl, hm⟩)⟩, try_no (hr.step ⟨hc, Or.inr (Or.inl ⟨rfl, hm⟩)⟩), new_look]
      · exact ⟨rfl, rfl⟩
      · rintro ⟨_, ⟨q, _⟩ | ⟨q, _⟩ | ⟨_, q⟩⟩
        · omega
        · omega
        · rw [new_look] at q
          simp only [upB_same] at q
          exact hn (of_decide_eq_true q)
    · omega
  · rw [try_no hr h1]
    by_cases h2 : OkT l 3 c
    · obtain ⟨hc, ⟨q, _⟩ | ⟨q, _⟩ | ⟨_, hi⟩⟩ := h2
      · omega
      · omega
      · obtain ⟨q1, q2⟩ := hr.ins c hc hi
        exact absurd ⟨hc, q1, q2⟩ h
    · rw [try_no hr h2]; exact ⟨rfl, rfl⟩
/-- The first k cores look and free. -/
def sweep (l : LockT) : Nat → LockT
  | 0 => l
  | k + 1 => visit (sweep l k) k
theorem sweep_rt {l : LockT} (hr : Rt l) : ∀ k, Rt (sweep l k)
  | 0 => hr
  | k + 1 => visit_rt (sweep_rt hr k) k
theorem sweep_next {l : LockT} (hr : Rt l) : ∀ k, (sweep l k).next = l.next
  | 0 => rfl
  | k + 1 => (visit_next (sweep_rt hr k) k).trans (sweep_next hr k)
theorem visit_now {l : LockT} (hr : Rt l) (c : Nat) : l.now ≤ (visit l c).now := by
  by_cases h : c < 8 ∧ l.mine c = l.now ∧ ¬ l.mine c = -1
  · rw [visit_turn h.1 h.2.1 h.2.2]; omega
  · rw [(visit_other hr h).1]; exact Int.le_refl _
/-- Who has the turn is met, or the turn has gone on. -/
theorem sweep_turn {l : LockT} (hr : Rt l) {h : Nat} (hh : h < 8) (hm : l.mine h = l.now) : ∀ k, k ≤ 8 → (l.now < (sweep l k).now) ∨ (k ≤ h ∧ (sweep l k).now = l.now ∧ (sweep l k).mine h = l.now)
  | 0, _ => Or.inr ⟨Nat.zero_le _, rfl, hm⟩
  | k + 1, hk => by
    have hrk := sweep_rt hr k
    show l.now < (visit (sweep l k) k).now ∨ (k + 1 ≤ h ∧ (visit (sweep l k) k).now = l.now ∧ (visit (sweep l k) k).mine h = l.now)
    rcases sweep_turn hr hh hm k (by omega) with g | ⟨g1, g2, g3⟩
    · have := visit_now hrk k
      left; omega
    · have h0 := hr.lo
      by_cases q : k = h
      · left
        subst q
        rw [visit_turn (by omega) (by rw [g3, g2]) (by rw [g3]; omega)]
        omega
      · right
        have hn : ¬ (k < 8 ∧ (sweep l k).mine k = (sweep l k).now ∧ ¬ (sweep l k).mine k = -1) := by
          rintro ⟨q1, q2, q3⟩
          exact q (hrk.one k h q1 hh (by rw [q2, g2, g3]) q3)
        obtain ⟨e1, e2⟩ := visit_other hrk hn
        exact ⟨by omega, by rw [e1]; exact g2, by rw [e2]; exact g3⟩
theorem sweep_on {l : LockT} (hr : Rt l) (hlt : l.now < l.next) : l.now < (sweep l 8).now := by
  obtain ⟨h, hh, hm⟩ := hr.all l.now (Int.le_refl _) hlt
  rcases sweep_turn hr hh hm 8 (Nat.le_refl _) with g | ⟨g, _⟩
  · exact g
  · omega
theorem sweep_now {l : LockT} (hr : Rt l) : ∀ k, l.now ≤ (sweep l k).now
  | 0 => Int.le_refl _
  | k + 1 => Int.le_trans (sweep_now hr k) (visit_now (sweep_rt hr k) k)
def rounds (l : LockT) : Nat → LockT
  | 0 => l
  | k + 1 => sweep (rounds l k) 8
theorem rounds_rt {l : LockT} (hr : Rt l) : ∀ k, Rt (rounds l k)
  | 0 => hr
  | k + 1 => sweep_rt (rounds_rt hr k) 8
theorem rounds_next {l : LockT} (hr : Rt l) : ∀ k, (rounds l k).next = l.next
  | 0 => rfl
  | k + 1 => (sweep_next (rounds_rt hr k) 8).trans (rounds_next hr k)
theorem rounds_on {l : LockT} (hr : Rt l) : ∀ k : Nat, l.now + k ≤ (rounds l k).now ∨ (rounds l k).now = l.next
  | 0 => Or.inl (by show l.now + 0 ≤ l.now; omega)
  | k + 1 => by
    have h1 := rounds_rt hr k
    have h2 := rounds_next hr k
    have h3 := (sweep_rt h1 8).le
    rw [sweep_next h1 8, h2] at h3
    show l.now + ((k + 1 : Nat) : Int) ≤ (sweep (rounds l k) 8).now ∨ (sweep (rounds l k) 8).now = l.next
    rcases rounds_on hr k with g | g
    · by_cases q : (rounds l k).now < (rounds l k).next
      · have := sweep_on h1 q
        left; omega
      · have := sweep_now h1 8
        right; omega
    · have := sweep_now h1 8
      right; omega
/-- EVERYBODY WHO ASKED COMES IN. -/
theorem rounds_all {l : LockT} (hr : Rt l) : (rounds l 8).now = (rounds l 8).next ∧ ∀ c, c < 8 → (rounds l 8).inn c = false := by
  have h1 := rounds_rt hr 8
  have h2 := rounds_next hr 8
  have h3 := hr.eight
  have h4 := h1.le
  have h5 : (rounds l 8).now = (rounds l 8).next := by
    rcases rounds_on hr 8 with g | g <;> omega
  refine ⟨h5, fun c hc => ?_⟩
  cases q : (rounds l 8).inn c with
  | false => rfl
  | true =>
    obtain ⟨q1, q2⟩ := h1.ins c hc q
    have := h1.rng c hc
    omega
/-- LOOKING AGAIN: as it was. -/
theorem look_again (l : LockT) (c : Nat) : newT (newT l 2 c) 2 c = newT l 2 c := by
  rw [new_look l c, new_look]
  simp only [LockT.mk.injEq, true_and]
  funext d
  unfold upB
  by_cases h : d = c
  · rw [if_pos h, if_pos h]
  · rw [if_neg h]
theorem look_out {l : LockT} (hr : Rt l) {c : Nat} (hc : c < 8) (h : ¬ l.mine c = l.now) : newT l 2 c = l := by
  have hi : l.inn c = false := by
    cases q : l.inn c with
    | false => rfl
    | true => exact absurd (hr.ins c hc q).1 h
  rw [new_look]
  cases l with
  | mk a b m n =>
    simp only [LockT.mk.injEq, true_and]
    funext d
    by_cases q : d = c
    · rw [q, upB_same]; simp only at hi h; rw [hi]; exact decide_eq_false h
    · rw [upB_other q]
/-- How many are in. -/
def inCnt (f : Nat → Bool) : Nat → Nat
  | 0 => 0
  | k + 1 => inCnt f k + (if f k = true then 1 else 0)
theorem inCnt_one {f : Nat → Bool} : ∀ {k : Nat}, (∀ c d, c < k → d < k → f c = true → f d = true → c = d) → inCnt f k ≤ 1 ∧ (inCnt f k = 1 → ∃ c, c < k ∧ f c = true)
  | 0, _ => ⟨Nat.zero_le _, fun h => by cases h⟩
  | k + 1, h => by
    obtain ⟨h1, h2⟩ := inCnt_one (f := f) (k := k) fun c d hc hd => h c d (by omega) (by omega)
    rw [inCnt]
    cases e : f k with
    | false => 
      simp only [Bool.false_eq_true, if_false, Nat.add_zero]
      exact ⟨h1, fun q => by obtain ⟨c, hc, g⟩ := h2 q; exact ⟨c, by omega, g⟩⟩
    | true =>
      have h0 : inCnt f k = 0 := by
        by_cases q : inCnt f k = 1
        · obtain ⟨c, hc, g⟩ := h2 q
          have := h c k (by omega) (by omega) g e
          omega
        · omega
      simp only [if_true, h0]
      exact ⟨Nat.le_refl _, fun _ => ⟨k, by omega, e⟩⟩
/-- Those of the first k cores that have ticket t. -/
def rowT (m : Nat → Int) (t : Int) : Nat → List Nat
  | 0 => []
  | k + 1 => rowT m t k ++ (if m k = t then [k] else [])
/-- Those that have one of the first j tickets from a on. -/
def queT (m : Nat → Int) (a : Int) : Nat → List Nat
  | 0 => []
  | j + 1 => queT m a j ++ rowT m (a + j) 8
theorem rowT_mem {m : Nat → Int} {t : Int} {c : Nat} : ∀ {k : Nat}, c ∈ rowT m t k ↔ c < k ∧ m c = t
  | 0 => by simp [rowT]
  | k + 1 => by
    rw [rowT, List.mem_append, rowT_mem]
    by_cases h : m k = t
    · rw [if_pos h, List.mem_singleton]
      constructor
      · rintro (⟨h1, h2⟩ | h1)
        · exact ⟨by omega, h2⟩
        · exact ⟨by omega, by rw [h1]; exact h⟩
      · rintro ⟨h1, h2⟩
        by_cases g : c = k
        · exact Or.inr g
        · exact Or.inl ⟨by omega, h2⟩
    · rw [if_neg h]
      constructor
      · rintro (⟨h1, h2⟩ | h1)
        · exact ⟨by omega, h2⟩
        · cases h1
      · rintro ⟨h1, h2⟩
        exact Or.inl ⟨by rcases Nat.lt_succ_iff_lt_or_eq.1 h1 with g | g; exact g; rw [g] at h2; exact absurd h2 h, h2⟩
theorem queT_mem {m : Nat → Int} {a : Int} {c : Nat} : ∀ {j : Nat}, c ∈ queT m a j ↔ c < 8 ∧ a ≤ m c ∧ m c < a + j
  | 0 => by
    rw [queT]
    constructor
    · intro h; cases h
    · rintro ⟨_, h1, h2⟩; omega
  | j + 1 => by
    rw [queT, List.mem_append, queT_mem, rowT_mem]
    constructor
    · rintro (⟨h1, h2, h3⟩ | ⟨h1, h2⟩) <;> (refine ⟨h1, ?_, ?_⟩ <;> omega)
    · rintro ⟨h1, h2, h3⟩
      by_cases g : m c = a + j
      · exact Or.inr ⟨h1, g⟩
      · exact Or.inl ⟨h1, h2, by omega⟩
theorem rowT_len (m : Nat → Int) (t : Int) : ∀ k, (rowT m t k).length = sumF (fun c => if m c = t then 1 else 0) k
  | 0 => rfl
  | k + 1 => by
    rw [rowT, List.length_append, rowT_len m t k, sumF]
    congr 1
    split <;> rfl
/-- How many have a ticket. -/
def hasT (m : Nat → Int) (k : Nat) : Nat := sumF (fun c => if m c = -1 then 0 else 1) k
/-- What the document's own answer asks of the queue. -/
def QueOk (l : LockT) (j : Nat) : Prop :=
  (l.next - l.now = j ∧ hasT l.mine 8 = j ∧ (queT l.mine l.now j).length = j) ∧ (∀ (k c : Nat), (queT l.mine l.now j)[k]? = some c → l.mine c = l.now + k) ∧ ∀ c, c < 8 → l.inn c = true → l.mine c = l.now ∧ ¬ l.mine c = -1
theorem que_rt {l : LockT} {j : Nat} (h0 : 0 ≤ l.now) (h1 : l.next ≤ 1099511627776) (h : QueOk l j) : Rt l := by
  obtain ⟨⟨e1, e2, e3⟩, h2, h3⟩ := h
  -- all that have a ticket are in the queue
  have hmem : ∀ c, c < 8 → ¬ l.mine c = -1 → c ∈ queT l.mine l.now j := by
    intro c hc hm
    apply Classical.byContradiction
    intro hn
    have hg : ∀ k, k < j → ∃ d, (queT l.mine l.now j)[k]? = some d := fun k hk => by
      have : k < (queT l.mine l.now j).length := by omega
      exact ⟨_, List.getElem?_eq_getElem this⟩
    have hf : ∃ I : Nat → Nat, ∀ k, k < j → (queT l.mine l.now j)[k]? = some (I k) :=
      ⟨fun k => if hk : k < j then Classical.choose (hg k hk) else 0, fun k hk => by
        simp only [dif_pos hk]
        exact Classical.choose_spec (hg k hk)⟩
    obtain ⟨I, hI⟩ := hf
    have hIm : ∀ k, k < j → I k < 8 ∧ l.mine (I k) = l.now + k := fun k hk => ⟨(queT_mem.1 (List.mem_of_getElem? (hI k hk))).1, h2 k _ (hI k hk)⟩
    have := sumF_inj (O := fun k => if k = j then c else I k) (n := 8) (k := j + 1) (fun c => if l.mine c = -1 then 0 else 1) (fun i hi => by
        by_cases g : i = j
        · simp only [if_pos g]; exact hc
        · simp only [if_neg g]; exact (hIm i (by omega)).1)
      (fun a b ha hb e => by
        by_cases ga : a = j
        · by_cases gb : b = j
          · omega
          · simp only [if_pos ga, if_neg gb] at e
            exact absurd (e ▸ List.mem_of_getElem? (hI b (by omega))) hn
        · by_cases gb : b = j
          · simp only [if_neg ga, if_pos gb] at e
            exact absurd (e ▸ List.mem_of_getElem? (hI a (by omega))) hn
          · simp only [if_neg ga, if_neg gb] at e
            have q1 := (hIm a (by omega)).2
            have q2 := (hIm b (by omega)).2
            rw [e, q2] at q1
            omega)
    have hone : sumF (fun i => (fun c => if l.mine c = -1 then 0 else 1) (if i = j then c else I i)) (j + 1) = sumF (fun _ => 1) (j + 1) := sumF_congr fun i hi => by
      by_cases g : i = j
      · simp only [if_pos g, if_neg hm]
      · simp only [if_neg g]
        exact if_neg (by have := (hIm i (by omega)).2; omega)
    rw [hone, sumF_const] at this
    have e2' : sumF (fun c => if l.mine c = -1 then 0 else 1) 8 = j := e2
    omega
  refine ⟨h0, by omega, h1, fun t h4 h5 => ?_, fun c hc => ?_, fun c d hc hd he hm => ?_, h3⟩
  · obtain ⟨k, hk⟩ : ∃ k : Nat, t - l.now = k := ⟨(t - l.now).toNat, by omega⟩
    have hlt : k < (queT l.mine l.now j).length := by omega
    have hg := List.getElem?_eq_getElem hlt
    exact ⟨_, (queT_mem.1 (List.mem_of_getElem? hg)).1, by rw [h2 k _ hg]; omega⟩
  · by_cases hm : l.mine c = -1
    · exact Or.inl hm
    · right
      have := queT_mem.1 (hmem c hc hm)
      omega
  · obtain ⟨i, hi⟩ := List.mem_iff_getElem?.1 (hmem c hc hm)
    obtain ⟨k, hk⟩ := List.mem_iff_getElem?.1 (hmem d hd (by rw [← he]; exact hm))
    have q1 := h2 i c hi
    have q2 := h2 k d hk
    have : i = k := by omega
    rw [this, hk] at hi
    exact (Option.some.inj hi).symm
theorem rowT_one {m : Nat → Int} {t : Int} {c : Nat} (hc : m c = t) (hu : ∀ d, d < 8 → m d = t → d = c) : ∀ k, k ≤ 8 → rowT m t k = if c < k then [c] else []
  | 0, _ => by simp [rowT]
  | k + 1, hk => by
    rw [rowT, rowT_one hc hu k (by omega)]
    by_cases g : m k = t
    · have := hu k (by omega) g
      rw [if_pos g, if_neg (by omega), if_pos (by omega), this]; rfl
    · have : ¬ c = k := by rintro rfl; exact g hc
      rw [if_neg g, List.append_nil]
      by_cases q : c < k
      · rw [if_pos q, if_pos (by omega)]
      · rw [if_neg q, if_neg (by omega)]
theorem rt_row {l : LockT} (h : Rt l) {t : Int} (h1 : l.now ≤ t) (h2 : t < l.next) : ∃ c, c < 8 ∧ l.mine c = t ∧ rowT l.mine t 8 = [c] := by
  obtain ⟨c, hc, e⟩ := h.all t h1 h2
  have := h.lo
  refine ⟨c, hc, e, ?_⟩
  rw [rowT_one e (fun d hd g => h.one d c hd hc (g.trans e.symm) (by omega)) 8 (Nat.le_refl _), if_pos hc]
theorem rt_que {l : LockT} (h : Rt l) : ∀ j : Nat, l.now + j ≤ l.next → (queT l.mine l.now j).length = j ∧ ∀ (k c : Nat), (queT l.mine l.now j)[k]? = some c → l.mine c = l.now + k
  | 0, _ => ⟨rfl, fun k c e => by simp [queT] at e⟩
  | j + 1, hj => by
    obtain ⟨h1, h2⟩ := rt_que h j (by omega)
    obtain ⟨c, hc, e, hr⟩ := rt_row h (t := l.now + j) (by omega) (by omega)
    rw [queT, hr]
    refine ⟨by rw [List.length_append, h1]; rfl, fun k d g => ?_⟩
    by_cases q : k < j
    · rw [List.getElem?_append_left (by omega)] at g
      exact h2 k d g
    · rw [List.getElem?_append_right (by omega), h1] at g
      by_cases q2 : k = j
      · rw [q2, Nat.sub_self] at g
        simp at g
        rw [← g, e, q2]
      · obtain ⟨z, hz⟩ : ∃ z, k - j = z + 1 := ⟨k - j - 1, by omega⟩
        rw [hz] at g
        simp at g
theorem rt_has {l : LockT} (h : Rt l) {j : Nat} (hj : l.next - l.now = j) : hasT l.mine 8 = j := by
  have h0 := h.lo
  by_cases hz : j = 0
  · rw [hz]
    unfold hasT
    rw [sumF_congr (g := fun _ => 0) fun i hi => if_pos (by have := h.rng i hi; omega), sumF_zero]
  · have hlt : ∀ i, i < 8 → (fun i => if l.mine i = -1 then 0 else (l.mine i - l.now).toNat) i < j := fun i hi => by
      show (if l.mine i = -1 then 0 else (l.mine i - l.now).toNat) < j
      by_cases g : l.mine i = -1
      · rw [if_pos g]; omega
      · rw [if_neg g]; have := h.rng i hi; omega
    have hs := lod_sum (ws := fun c => if l.mine c = -1 then 0 else 1) (A := fun i => if l.mine i = -1 then 0 else (l.mine i - l.now).toNat) (m := j) (n := 8) hlt
    show sumF (fun c => if l.mine c = -1 then 0 else 1) 8 = j
    rw [← hs]
    have : sumF (fun c => lod (fun c => if l.mine c = -1 then 0 else 1) (fun i => if l.mine i = -1 then 0 else (l.mine i - l.now).toNat) c 8) j = sumF (fun _ => 1) j := sumF_congr fun t ht => by
      obtain ⟨c, hc, e, hr⟩ := rt_row h (t := l.now + t) (by omega) (by omega)
      have hl : (rowT l.mine (l.now + t) 8).length = 1 := by rw [hr]; rfl
      rw [rowT_len] at hl
      refine Eq.trans (sumF_congr (g := fun c => if l.mine c = l.now + t then 1 else 0) fun i hi => ?_) hl
      show (if (if l.mine i = -1 then 0 else (l.mine i - l.now).toNat) = t then (if l.mine i = -1 then 0 else 1) else 0) = if l.mine i = l.now + t then 1 else 0
      by_cases g : l.mine i = -1
      · simp only [if_pos g]
        rw [if_neg (show ¬ l.mine i = l.now + t by omega)]
        split <;> rfl
      · simp only [if_neg g]
        have := h.rng i hi
        by_cases q : l.mine i = l.now + t
        · rw [if_pos q, if_pos (by omega)]
        · rw [if_neg q, if_neg (by omega)]
    rw [this, sumF_const, Nat.mul_one]
/-- The document's own answer: it is right. -/
theorem rt_queOk {l : LockT} (h : Rt l) {j : Nat} (hj : l.next - l.now = j) : QueOk l j := by
  obtain ⟨h1, h2⟩ := rt_que h j (by omega)
  exact ⟨⟨hj, rt_has h hj, h1⟩, h2, h.ins⟩
theorem queOk_iff {l : LockT} {j : Nat} (h0 : 0 ≤ l.now) (h1 : l.next ≤ 1099511627776) (hj : l.next - l.now = j) : QueOk l j ↔ Rt l := ⟨que_rt h0 h1, fun h => rt_queOk h hj⟩
end Go.Proofs.Ytfepgebnaglkaaa
