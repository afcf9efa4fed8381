/- Plain facts on slots: what an operation makes of the lines' slots, and what a run does. No program in sight. -/
import Derived.Test.YtmldedkmmhnihaaDoorPlainB
namespace Go.Proofs.YtmldedkmmhnihaaDoor

/-- A slot: a core and a vector on it; of zeros: none. -/
structure SlotT where
  core : Nat
  vec : Nat
/-- An operation. -/
structure VopT where
  kind : Int
  line : Int
  mask : Int
def zs : SlotT := ⟨0, 0⟩
def onC (c : Nat) (s : SlotT) : Bool := decide (0 < s.vec) && decide (s.core = c)
/-- How many lines have a slot on the core. -/
def cntV (l : List SlotT) (c : Nat) : Nat := l.countP (onC c)
/-- Is the vector free on the core? -/
def freeV (l : List SlotT) (c v : Nat) : Bool := decide (32 ≤ v) && l.all fun s => !(onC c s && decide (s.vec = v))
/-- The smallest free vector, or -1. -/
def vecV (l : List SlotT) (c : Nat) : Int := nextOf (freeV l c) 32
/-- Is the core's bit in the mask? -/
def allow (m : Int) (c : Nat) : Bool := decide (m / 2 ^ c % 2 = 1)
/-- The first of the cores below k with the fewest, of those that are allowed and have room. -/
def pick (n : Nat → Nat) (ok : Nat → Bool) : Nat → Option Nat
  | 0 => none
  | c + 1 => match pick n ok c with
    | none => if ok c = true ∧ n c < 224 then some c else none
    | some b => if ok c = true ∧ n c < 224 ∧ n c < n b then some c else some b
theorem pick_some {n : Nat → Nat} {ok : Nat → Bool} : ∀ {k c : Nat}, pick n ok k = some c → c < k ∧ ok c = true ∧ n c < 224 ∧ ∀ d, d < k → ok d = true → n d < 224 → n c ≤ n d
  | 0, c, h => by simp [pick] at h
  | k + 1, c, h => by
    unfold pick at h
    cases e : pick n ok k with
    | none =>
      rw [e] at h
      simp only at h
      split at h
      · rename_i g
        simp only [Option.some.injEq] at h
        subst h
        refine ⟨by omega, g.1, g.2, fun d hd h1 h2 => ?_⟩
        by_cases hdk : d = k
        · rw [hdk]; exact Nat.le_refl _
        · exact absurd ⟨h1, h2⟩ (pick_none' e d (by omega))
      · cases h
    | some b =>
      obtain ⟨g1, g2, g3, g4⟩ := pick_some e
      rw [e] at h
      simp only at h
      split at h
      · rename_i g
        simp only [Option.some.injEq] at h
        subst h
        refine ⟨by omega, g.1, g.2.1, fun d hd h1 h2 => ?_⟩
        by_cases hdk : d = k
        · rw [hdk]; exact Nat.le_refl _
        · have := g4 d (by omega) h1 h2
          omega
      · rename_i g
        simp only [Option.some.injEq] at h
        subst h
        refine ⟨by omega, g2, g3, fun d hd h1 h2 => ?_⟩
        by_cases hdk : d = k
        · subst hdk
          by_cases hlt : n d < n b
          · exact absurd ⟨h1, h2, hlt⟩ g
          · omega
        · exact g4 d (by omega) h1 h2
where pick_none' {n : Nat → Nat} {ok : Nat → Bool} : ∀ {k : Nat}, pick n ok k = none → ∀ d, d < k → ¬ (ok d = true ∧ n d < 224)
  | 0, _, d, hd => by omega
  | k + 1, h, d, hd => by
    unfold pick at h
    cases e : pick n ok k with
    | none =>
      rw [e] at h
      simp only at h
      split at h
      · cases h
      · rename_i g
        by_cases hdk : d = k
        · rw [hdk]; exact g
        · exact pick_none' e d (by omega)
    | some b =>
      rw [e] at h
      simp only at h
      split at h <;> cases h
theorem pick_none {n : Nat → Nat} {ok : Nat → Bool} {k : Nat} (h : pick n ok k = none) (d : Nat) (hd : d < k) : ¬ (ok d = true ∧ n d < 224) := pick_some.pick_none' h d hd

/-- What 'check' says of the operation. -/
def errV (l : List SlotT) (o : VopT) : Int :=
  if ¬ (1 ≤ o.kind ∧ o.kind ≤ 3) then 5 else if ¬ (0 ≤ o.line ∧ o.line < l.length) then 2
  else if o.kind = 1 ∧ 0 < (l.getD o.line.toNat zs).vec then 6 else if ¬ o.kind = 1 ∧ ¬ 0 < (l.getD o.line.toNat zs).vec then 3 else 0
/-- The cores that the operation allows. -/
def okV (l : List SlotT) (o : VopT) (c : Nat) : Bool := allow o.mask c && !(decide (o.kind = 3) && decide (c = (l.getD o.line.toNat zs).core))
def stepV (cores : Nat) (l : List SlotT) (o : VopT) : List SlotT × Int :=
  if ¬ errV l o = 0 then (l, errV l o) else if o.kind = 2 then (l.set o.line.toNat zs, 0)
  else match pick (cntV l) (okV l o) cores with
    | none => (l, 4)
    | some c => (l.set o.line.toNat ⟨c, (vecV l c).toNat⟩, 0)
def nextV (cores : Nat) (st : List SlotT × List Int) (o : VopT) : List SlotT × List Int := ((stepV cores st.1 o).1, st.2 ++ [(stepV cores st.1 o).2])
/-- A run. -/
def runV (cores lines : Nat) (ops : List VopT) : List SlotT × List Int := ops.foldl (nextV cores) (List.replicate lines zs, [])
theorem runV_snoc (cores lines : Nat) (ops : List VopT) (o : VopT) : runV cores lines (ops ++ [o]) = nextV cores (runV cores lines ops) o := by simp [runV]

theorem onC_iff (c : Nat) (s : SlotT) : onC c s = true ↔ 0 < s.vec ∧ s.core = c := by simp [onC]
theorem freeV_iff (l : List SlotT) (c v : Nat) : freeV l c v = true ↔ 32 ≤ v ∧ ∀ (j : Nat) (s : SlotT), l[j]? = some s → 0 < s.vec → s.core = c → ¬ s.vec = v := by
  unfold freeV
  rw [Bool.and_eq_true, decide_eq_true_iff, List.all_eq_true]
  constructor
  · rintro ⟨h1, h2⟩
    refine ⟨h1, fun j s hj h3 h4 h5 => ?_⟩
    have := h2 s (List.mem_of_getElem? hj)
    rw [(onC_iff c s).2 ⟨h3, h4⟩] at this
    simp [h5] at this
  · rintro ⟨h1, h2⟩
    refine ⟨h1, fun s hs => ?_⟩
    obtain ⟨j, hj, e⟩ := List.getElem_of_mem hs
    by_cases g : onC c s = true
    · obtain ⟨g1, g2⟩ := (onC_iff c s).1 g
      have := h2 j s (by rw [List.getElem?_eq_getElem hj, e]) g1 g2
      simp [this]
    · simp at g
      simp [g]
theorem bool_ext {a b : Bool} (h : a = true ↔ b = true) : a = b := by cases a <;> cases b <;> simp_all

theorem mem_all_le : ∀ (n : Nat) (l : List Nat), (∀ v, v < n → v ∈ l) → n ≤ l.length
  | 0, _, _ => Nat.zero_le _
  | n + 1, l, h => by
    have h1 := h n (by omega)
    have h2 := mem_all_le n (l.erase n) (fun v hv => (List.mem_erase_of_ne (by omega)).2 (h v (by omega)))
    rw [List.length_erase_of_mem h1] at h2
    have : 0 < l.length := List.length_pos_of_mem h1
    omega
/-- On a core with room there is a free vector. -/
theorem vec_ok {l : List SlotT} {c : Nat} (h : cntV l c < 224) : ∃ v : Nat, vecV l c = v ∧ 32 ≤ v ∧ v < 256 ∧ freeV l c v = true ∧ ∀ m, m < v → 32 ≤ m → freeV l c m = false := by
  rcases nextOf_cases (freeV l c) 32 with ⟨_, hn⟩ | ⟨v, e, h1, h2, h3, h4⟩
  · exfalso
    have hall : ∀ v, v < 224 → v ∈ ((l.filter (onC c)).map fun s => s.vec - 32) := by
      intro v hv
      have hf := hn (v + 32) (by omega) (by omega)
      have hx : ¬ (freeV l c (v + 32) = true) := by rw [hf]; simp
      rw [freeV_iff] at hx
      have hx' : ¬ ∀ (j : Nat) (s : SlotT), l[j]? = some s → 0 < s.vec → s.core = c → ¬ s.vec = v + 32 := fun g => hx ⟨by omega, g⟩
      apply Classical.byContradiction
      intro hm
      apply hx'
      intro j s hj g1 g2 g3
      apply hm
      rw [List.mem_map]
      exact ⟨s, List.mem_filter.2 ⟨List.mem_of_getElem? hj, (onC_iff c s).2 ⟨g1, g2⟩⟩, by omega⟩
    have := mem_all_le 224 _ hall
    rw [List.length_map, ← List.countP_eq_length_filter] at this
    unfold cntV at h
    omega
  · exact ⟨v, e, by omega, h1, h2, fun m hm h32 => h4 m hm (by omega)⟩

def RangeV (cores : Nat) (l : List SlotT) : Prop := ∀ (i : Nat) (s : SlotT), l[i]? = some s → s = zs ∨ (s.core < cores ∧ 32 ≤ s.vec ∧ s.vec < 256)
def InjV (l : List SlotT) : Prop := ∀ (i j : Nat) (s : SlotT), l[i]? = some s → l[j]? = some s → 0 < s.vec → i = j
def GoodV (cores : Nat) (l : List SlotT) : Prop := RangeV cores l ∧ InjV l
theorem getD_of {l : List SlotT} {i : Nat} (h : i < l.length) : l[i]? = some (l.getD i zs) := by
  rw [List.getD_eq_getElem?_getD, List.getElem?_eq_getElem h]
  rfl
theorem of_getElem? {l : List SlotT} {i : Nat} {s : SlotT} (h : l[i]? = some s) : l.getD i zs = s := by
  rw [List.getD_eq_getElem?_getD, h]
  rfl
theorem set_at {l : List SlotT} {i j : Nat} {a s : SlotT} (hi : i < l.length) : (l.set i a)[j]? = some s ↔ (j = i ∧ s = a) ∨ (¬ j = i ∧ l[j]? = some s) := by
  rw [List.getElem?_set]
  by_cases e : i = j
  · subst e
    simp [hi]
    exact eq_comm
  · have : ¬ j = i := fun h => e h.symm
    simp [e, this]
theorem good_zero (cores n : Nat) : GoodV cores (List.replicate n zs) := by
  have hz : ∀ (i : Nat) (s : SlotT), (List.replicate n zs)[i]? = some s → s = zs := by
    intro i s h
    rw [List.getElem?_replicate] at h
    split at h
    · cases h; rfl
    · cases h
  exact ⟨fun i s h => Or.inl (hz i s h), fun i j s h _ h0 => by rw [hz i s h] at h0; exact absurd h0 (by decide)⟩
theorem good_drop {cores : Nat} {l : List SlotT} {i : Nat} (h : GoodV cores l) (hi : i < l.length) : GoodV cores (l.set i zs) := by
  refine ⟨fun j s hj => ?_, fun j k s hj hk h0 => ?_⟩
  · rcases (set_at hi).1 hj with ⟨_, rfl⟩ | ⟨_, g⟩
    · exact Or.inl rfl
    · exact h.1 j s g
  · rcases (set_at hi).1 hj with ⟨_, rfl⟩ | ⟨_, g⟩
    · exact absurd h0 (by decide)
    · rcases (set_at hi).1 hk with ⟨_, rfl⟩ | ⟨_, g2⟩
      · exact absurd h0 (by decide)
      · exact h.2 j k s g g2 h0
theorem good_put {cores : Nat} {l : List SlotT} {i c v : Nat} (h : GoodV cores l) (hi : i < l.length) (hc : c < cores) (hv : 32 ≤ v) (hv2 : v < 256) (hf : freeV l c v = true) : GoodV cores (l.set i ⟨c, v⟩) := by
  have hf' := ((freeV_iff l c v).1 hf).2
  refine ⟨fun j s hj => ?_, fun j k s hj hk h0 => ?_⟩
  · rcases (set_at hi).1 hj with ⟨_, rfl⟩ | ⟨_, g⟩
    · exact Or.inr ⟨hc, hv, hv2⟩
    · exact h.1 j s g
  · rcases (set_at hi).1 hj with ⟨e1, rfl⟩ | ⟨e1, g⟩
    · rcases (set_at hi).1 hk with ⟨e2, _⟩ | ⟨_, g2⟩
      · omega
      · exact absurd rfl (hf' k _ g2 h0 rfl)
    · rcases (set_at hi).1 hk with ⟨_, rfl⟩ | ⟨_, g2⟩
      · exact absurd rfl (hf' j _ g h0 rfl)
      · exact h.2 j k s g g2 h0
/-- What becomes of the number of slots on a core. -/
theorem count_set {α : Type} (p : α → Bool) : ∀ (l : List α) (i : Nat) (a s : α), l[i]? = some s → (l.set i a).countP p + (if p s then 1 else 0) = l.countP p + (if p a then 1 else 0)
  | [], i, a, s, h => by simp at h
  | x :: r, 0, a, s, h => by
    simp at h
    subst h
    simp only [List.set_cons_zero, List.countP_cons]
    omega
  | x :: r, i + 1, a, s, h => by
    have := count_set p r i a s (by simpa using h)
    simp only [List.set_cons_succ, List.countP_cons]
    omega
theorem cnt_put {l : List SlotT} {i c v d : Nat} (hi : i < l.length) (h0 : (l.getD i zs).vec = 0) (hv : 32 ≤ v) : cntV (l.set i ⟨c, v⟩) d = cntV l d + (if d = c then 1 else 0) := by
  have := count_set (onC d) l i ⟨c, v⟩ _ (getD_of hi)
  have e1 : onC d (l.getD i zs) = false := by unfold onC; rw [h0]; rfl
  have e2 : onC d ⟨c, v⟩ = decide (d = c) := by
    unfold onC
    rw [show decide (0 < v) = true by simp; omega, Bool.true_and]
    exact decide_eq_decide.2 eq_comm
  rw [e1, e2] at this
  unfold cntV
  by_cases e : d = c
  · simp [e] at this ⊢; omega
  · simp [e] at this ⊢; omega
theorem cnt_drop {l : List SlotT} {i d : Nat} (hi : i < l.length) (h0 : 0 < (l.getD i zs).vec) : cntV (l.set i zs) d + (if d = (l.getD i zs).core then 1 else 0) = cntV l d := by
  have := count_set (onC d) l i zs _ (getD_of hi)
  have e1 : onC d (l.getD i zs) = decide (d = (l.getD i zs).core) := by
    unfold onC
    rw [decide_eq_true h0, Bool.true_and]
    exact decide_eq_decide.2 eq_comm
  have e2 : onC d zs = false := by simp [onC, zs]
  rw [e1, e2] at this
  unfold cntV
  generalize (l.getD i zs).core = k at this ⊢
  by_cases e : d = k
  · simp [e] at this ⊢; omega
  · simp [e] at this ⊢; omega
theorem free_put {l : List SlotT} {i c v d m : Nat} (hi : i < l.length) (h0 : (l.getD i zs).vec = 0) : freeV (l.set i ⟨c, v⟩) d m = (freeV l d m && !(decide (d = c) && decide (m = v))) := by
  apply bool_ext
  rw [Bool.and_eq_true, freeV_iff, freeV_iff]
  have e2 : (!(decide (d = c) && decide (m = v))) = true ↔ ¬ (d = c ∧ m = v) := by simp; omega
  rw [e2]
  constructor
  · rintro ⟨h1, h2⟩
    refine ⟨⟨h1, fun j s hj g1 g2 => ?_⟩, fun ⟨g1, g2⟩ => ?_⟩
    · by_cases e : j = i
      · subst e
        rw [of_getElem? hj] at h0
        omega
      · exact h2 j s ((set_at hi).2 (Or.inr ⟨e, hj⟩)) g1 g2
    · exact h2 i ⟨c, v⟩ ((set_at hi).2 (Or.inl ⟨rfl, rfl⟩)) (show 0 < v by omega) g1.symm g2.symm
  · rintro ⟨⟨h1, h2⟩, h3⟩
    refine ⟨h1, fun j s hj g1 g2 g3 => ?_⟩
    rcases (set_at hi).1 hj with ⟨_, rfl⟩ | ⟨_, g⟩
    · exact h3 ⟨g2.symm, g3.symm⟩
    · exact h2 j s g g1 g2 g3
theorem free_drop {cores : Nat} {l : List SlotT} {i d m : Nat} (h : GoodV cores l) (hi : i < l.length) (h0 : 0 < (l.getD i zs).vec) : freeV (l.set i zs) d m = (freeV l d m || (decide (d = (l.getD i zs).core) && decide (m = (l.getD i zs).vec))) := by
  have hs := getD_of hi
  have hr := h.1 i _ hs
  have hv : 32 ≤ (l.getD i zs).vec := by
    rcases hr with hr | hr
    · rw [hr] at h0; exact absurd h0 (by decide)
    · exact hr.2.1
  generalize l.getD i zs = s0 at *
  apply bool_ext
  rw [Bool.or_eq_true, freeV_iff, freeV_iff]
  have e2 : (decide (d = s0.core) && decide (m = s0.vec)) = true ↔ d = s0.core ∧ m = s0.vec := by simp
  rw [e2]
  constructor
  · rintro ⟨h1, h2⟩
    by_cases e : d = s0.core ∧ m = s0.vec
    · exact Or.inr e
    · refine Or.inl ⟨h1, fun j s hj g1 g2 g3 => ?_⟩
      by_cases e' : j = i
      · subst e'
        rw [hs] at hj
        cases hj
        exact e ⟨g2.symm, g3.symm⟩
      · exact h2 j s ((set_at hi).2 (Or.inr ⟨e', hj⟩)) g1 g2 g3
  · intro g
    refine ⟨?_, fun j s hj g1 g2 g3 => ?_⟩
    · rcases g with g | g
      · exact g.1
      · omega
    · rcases (set_at hi).1 hj with ⟨_, rfl⟩ | ⟨e', g'⟩
      · exact absurd g1 (by decide)
      · rcases g with g | g
        · exact g.2 j s g' g1 g2 g3
        · apply e'
          have : s = s0 := by
            obtain ⟨c1, v1⟩ := s
            obtain ⟨c2, v2⟩ := s0
            simp at g2 g3 g ⊢
            omega
          subst this
          exact h.2 j i s g' hs g1
theorem step_len (cores : Nat) (l : List SlotT) (o : VopT) : (stepV cores l o).1.length = l.length := by
  unfold stepV
  split
  · rfl
  · split
    · simp
    · split <;> simp
theorem errV_zero {l : List SlotT} {o : VopT} : errV l o = 0 ↔ (1 ≤ o.kind ∧ o.kind ≤ 3) ∧ (0 ≤ o.line ∧ o.line < l.length) ∧ (o.kind = 1 ↔ (l.getD o.line.toNat zs).vec = 0) := by
  unfold errV
  generalize (l.getD o.line.toNat zs).vec = v
  repeat (first | omega | split)
theorem errV_small (l : List SlotT) (o : VopT) : 0 ≤ errV l o ∧ errV l o ≤ 6 := by
  unfold errV
  repeat (first | omega | split)
/-- Putting a slot where another one, or none, was. -/
theorem set_twice (l : List SlotT) (i : Nat) (a : SlotT) : (l.set i zs).set i a = l.set i a := List.set_set ..
theorem set_none {l : List SlotT} {i cores : Nat} (h : GoodV cores l) (hi : i < l.length) (h0 : (l.getD i zs).vec = 0) : l.set i zs = l := by
  have hz : l.getD i zs = zs := by
    rcases h.1 i _ (getD_of hi) with e | e
    · exact e
    · omega
  apply List.ext_getElem?
  intro j
  rw [List.getElem?_set]
  by_cases e : i = j
  · subst e
    rw [getD_of hi, hz]
    simp [hi]
  · simp [e]
/-- A move looks for another core: what is free there, and how many are there, does not hang on what the line has. -/
theorem vec_other {cores : Nat} {l : List SlotT} {i c : Nat} (h : GoodV cores l) (hi : i < l.length) (hc : 0 < (l.getD i zs).vec → ¬ c = (l.getD i zs).core) : (∀ m, freeV (l.set i zs) c m = freeV l c m) ∧ cntV (l.set i zs) c = cntV l c := by
  by_cases h0 : 0 < (l.getD i zs).vec
  · refine ⟨fun m => ?_, ?_⟩
    · rw [free_drop h hi h0, decide_eq_false (hc h0), Bool.false_and, Bool.or_false]
    · have := cnt_drop (d := c) hi h0
      rw [if_neg (hc h0)] at this
      omega
  · rw [set_none h hi (by omega)]
    exact ⟨fun _ => rfl, rfl⟩
theorem nextOf_congr {p q : Nat → Bool} {f : Int} (h : ∀ m, p m = q m) : nextOf p f = nextOf q f := by
  have : p = q := funext h
  rw [this]
theorem step_good {cores : Nat} {l : List SlotT} (o : VopT) (h : GoodV cores l) : GoodV cores (stepV cores l o).1 := by
  unfold stepV
  split
  · exact h
  · rename_i he
    obtain ⟨g1, g2, g3⟩ := errV_zero.1 (Classical.not_not.1 he)
    obtain ⟨i, hi⟩ : ∃ i : Nat, o.line.toNat = i := ⟨_, rfl⟩
    have hil : i < l.length := by omega
    rw [hi] at g3 ⊢
    split
    · exact good_drop h hil
    · rename_i hk
      split
      · exact h
      · rename_i c hp
        obtain ⟨p1, p2, p3, _⟩ := pick_some hp
        obtain ⟨v, e, v1, v2, v3, _⟩ := vec_ok p3
        rw [e, Int.toNat_natCast, ← set_twice]
        have hc : 0 < (l.getD i zs).vec → ¬ c = (l.getD i zs).core := by
          intro h0
          have hk3 : o.kind = 3 := by omega
          unfold okV at p2
          rw [hi] at p2
          simp [hk3] at p2
          exact p2.2
        exact good_put (good_drop h hil) (by simpa using hil) p1 v1 v2 (by rw [(vec_other h hil hc).1]; exact v3)
theorem run_good (cores lines : Nat) (ops : List VopT) : GoodV cores (runV cores lines ops).1 ∧ (runV cores lines ops).1.length = lines ∧ (runV cores lines ops).2.length = ops.length := by
  have key : ∀ (ops : List VopT) (st : List SlotT × List Int), GoodV cores st.1 → st.1.length = lines → GoodV cores (ops.foldl (nextV cores) st).1 ∧ (ops.foldl (nextV cores) st).1.length = lines ∧ (ops.foldl (nextV cores) st).2.length = st.2.length + ops.length := by
    intro ops
    induction ops with
    | nil => intro st h1 h2; exact ⟨h1, h2, rfl⟩
    | cons o r ih =>
      intro st h1 h2
      rw [List.foldl_cons]
      obtain ⟨g1, g2, g3⟩ := ih (nextV cores st o) (step_good o h1) (by show (stepV cores st.1 o).1.length = _; rw [step_len, h2])
      refine ⟨g1, g2, ?_⟩
      rw [g3]
      simp [nextV]
      omega
  have := key ops (List.replicate lines zs, []) (good_zero cores lines) (by simp)
  unfold runV
  simpa using this
end Go.Proofs.YtmldedkmmhnihaaDoor
