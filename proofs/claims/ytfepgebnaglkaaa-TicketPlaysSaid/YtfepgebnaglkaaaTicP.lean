/- Plain facts on ticket locks: when a lock is right, what a step makes of it, who comes in when. No program in sight. -/
import Derived.Test.YtfepgebnaglkaaaSprM
namespace Go.Proofs.Ytfepgebnaglkaaa

structure LockT where
  next : Int
  now : Int
  mine : Nat → Int
  inn : Nat → Bool
def upI (f : Nat → Int) (i : Nat) (v : Int) : Nat → Int := fun j => if j = i then v else f j
def upB (f : Nat → Bool) (i : Nat) (v : Bool) : Nat → Bool := fun j => if j = i then v else f j
theorem upI_same (f : Nat → Int) (i : Nat) (v : Int) : upI f i v i = v := if_pos rfl
theorem upI_other {f : Nat → Int} {i j : Nat} {v : Int} (h : ¬ j = i) : upI f i v j = f j := if_neg h
theorem upB_same (f : Nat → Bool) (i : Nat) (v : Bool) : upB f i v i = v := if_pos rfl
theorem upB_other {f : Nat → Bool} {i j : Nat} {v : Bool} (h : ¬ j = i) : upB f i v j = f j := if_neg h
/-- The two are one lock. -/
def Same8 (a b : LockT) : Prop := (a.next = b.next ∧ a.now = b.now) ∧ (∀ c, c < 8 → a.mine c = b.mine c) ∧ ∀ c, c < 8 → a.inn c = b.inn c
theorem Same8.refl (a : LockT) : Same8 a a := ⟨⟨rfl, rfl⟩, fun _ _ => rfl, fun _ _ => rfl⟩
theorem Same8.symm {a b : LockT} (h : Same8 a b) : Same8 b a := ⟨⟨h.1.1.symm, h.1.2.symm⟩, fun c hc => (h.2.1 c hc).symm, fun c hc => (h.2.2 c hc).symm⟩
/-- When a lock is right. -/
structure Rt (l : LockT) : Prop where
  lo : 0 ≤ l.now
  le : l.now ≤ l.next
  hi : l.next ≤ 1099511627776
  all : ∀ t, l.now ≤ t → t < l.next → ∃ c, c < 8 ∧ l.mine c = t
  rng : ∀ c, c < 8 → l.mine c = -1 ∨ (l.now ≤ l.mine c ∧ l.mine c < l.next)
  one : ∀ c d, c < 8 → d < 8 → l.mine c = l.mine d → ¬ l.mine c = -1 → c = d
  ins : ∀ c, c < 8 → l.inn c = true → l.mine c = l.now ∧ ¬ l.mine c = -1
theorem Rt.same {a b : LockT} (h : Rt a) (e : Same8 a b) : Rt b := by
  obtain ⟨⟨e1, e2⟩, e3, e4⟩ := e
  refine ⟨by rw [← e2]; exact h.lo, by rw [← e1, ← e2]; exact h.le, by rw [← e1]; exact h.hi, fun t h1 h2 => ?_, fun c hc => ?_, fun c d hc hd => ?_, fun c hc => ?_⟩
  · obtain ⟨c, hc, g⟩ := h.all t (by omega) (by omega)
    exact ⟨c, hc, by rw [← e3 c hc]; exact g⟩
  · rw [← e1, ← e2, ← e3 c hc]; exact h.rng c hc
  · rw [← e3 c hc, ← e3 d hd]; exact h.one c d hc hd
  · rw [← e2, ← e3 c hc, ← e4 c hc]; exact h.ins c hc
/-- The lock at the start. -/
def l0 : LockT := ⟨0, 0, fun _ => -1, fun _ => false⟩
theorem rt_l0 : Rt l0 := ⟨by decide, by decide, by decide, fun t h1 h2 => by
  simp only [l0] at h1 h2; omega, fun c _ => Or.inl rfl, fun c d _ _ _ h => absurd rfl h, fun c _ h => by cases h⟩
theorem Rt.one_in {l : LockT} (h : Rt l) {c d : Nat} (hc : c < 8) (hd : d < 8) (ic : l.inn c = true) (id : l.inn d = true) : c = d := by
  have h1 := h.ins c hc ic
  have h2 := h.ins d hd id
  exact h.one c d hc hd (h1.1.trans h2.1.symm) h1.2
theorem Rt.free_no {l : LockT} (h : Rt l) {c : Nat} (hc : c < 8) (hm : l.mine c = -1) : l.inn c = false := by
  cases e : l.inn c with
  | false => rfl
  | true => exact absurd hm (h.ins c hc e).2
/-- There are no more tickets than cores. -/
theorem Rt.eight {l : LockT} (h : Rt l) : l.next - l.now ≤ 8 := by
  obtain ⟨m, hm⟩ : ∃ m : Nat, l.next - l.now = m := ⟨(l.next - l.now).toNat, by have := h.le; omega⟩
  have hf : ∃ I : Nat → Nat, ∀ k, k < m → I k < 8 ∧ l.mine (I k) = l.now + k :=
    ⟨fun k => if hk : k < m then Classical.choose (h.all (l.now + k) (by omega) (by omega)) else 0, fun k hk => by
      simp only [dif_pos hk]
      exact Classical.choose_spec (h.all (l.now + k) (by omega) (by omega))⟩
  obtain ⟨I, hI⟩ := hf
  have := sumF_inj (O := I) (n := 8) (k := m) (fun _ => 1) (fun i hi => (hI i hi).1) (fun a b ha hb e => by
    have h1 := (hI a ha).2
    have h2 := (hI b hb).2
    rw [e, h2] at h1
    omega)
  simp only [sumF_const] at this
  omega
/-- What a step makes of a right lock, where nothing speaks against it. -/
def newT (l : LockT) (k : Int) (c : Nat) : LockT :=
  if k = 1 then { l with mine := upI l.mine c l.next, next := l.next + 1 }
  else if k = 2 then { l with inn := upB l.inn c (decide (l.mine c = l.now)) }
  else { l with mine := upI l.mine c (-1), inn := upB l.inn c false, now := l.now + 1 }
/-- Nothing speaks against it. -/
def OkT (l : LockT) (k : Int) (c : Nat) : Prop := c < 8 ∧ ((k = 1 ∧ l.mine c = -1 ∧ l.next < 1099511627776) ∨ (k = 2 ∧ ¬ l.mine c = -1) ∨ (k = 3 ∧ l.inn c = true))
theorem new_ask (l : LockT) (c : Nat) : newT l 1 c = { l with mine := upI l.mine c l.next, next := l.next + 1 } := if_pos rfl
theorem new_look (l : LockT) (c : Nat) : newT l 2 c = { l with inn := upB l.inn c (decide (l.mine c = l.now)) } := by unfold newT; rw [if_neg (by decide), if_pos rfl]
theorem new_free (l : LockT) (c : Nat) : newT l 3 c = { l with mine := upI l.mine c (-1), inn := upB l.inn c false, now := l.now + 1 } := by unfold newT; rw [if_neg (by decide), if_neg (by decide)]
theorem Rt.step {l : LockT} (h : Rt l) {k : Int} {c : Nat} (ho : OkT l k c) : Rt (newT l k c) := by
  obtain ⟨hc, ⟨rfl, h1, h2⟩ | ⟨rfl, h1⟩ | ⟨rfl, h1⟩⟩ := ho
  · rw [new_ask]
    have hf := h.free_no hc h1
    refine ⟨h.lo, ?_, ?_, fun t h3 h4 => ?_, fun d hd => ?_, fun d e hd he => ?_, fun d hd hi => ?_⟩
    · have := h.le; simp only; omega
    · simp only; omega
    · simp only at h3 h4 ⊢
      by_cases g : t = l.next
      · exact ⟨c, hc, by rw [upI_same, g]⟩
      · obtain ⟨d, hd, e⟩ := h.all t h3 (by omega)
        refine ⟨d, hd, ?_⟩
        rw [upI_other (by rintro rfl; have := h.lo; omega)]
        exact e
    · simp only
      by_cases g : d = c
      · right; rw [g, upI_same]; have := h.le; omega
      · rw [upI_other g]
        rcases h.rng d hd with e | e
        · exact Or.inl e
        · right; omega
    · simp only
      by_cases g : d = c
      · by_cases g2 : e = c
        · intro _ _; rw [g, g2]
        · rw [g, upI_same, upI_other g2]
          intro q _
          have := h.rng e he
          have := h.le
          have := h.lo
          omega
      · by_cases g2 : e = c
        · rw [g2, upI_same, upI_other g]
          intro q _
          have := h.rng d hd
          have := h.le
          have := h.lo
          omega
        · rw [upI_other g, upI_other g2]
          exact h.one d e hd he
    · simp only at hi ⊢
      have hdc : ¬ d = c := by rintro rfl; rw [hf] at hi; cases hi
      rw [upI_other hdc]
      exact h.ins d hd hi
  · rw [new_look]
    refine ⟨h.lo, h.le, h.hi, h.all, h.rng, h.one, fun d hd hi => ?_⟩
    simp only at hi ⊢
    by_cases g : d = c
    · rw [g, upB_same] at hi
      rw [g]
      exact ⟨of_decide_eq_true hi, h1⟩
    · rw [upB_other g] at hi
      exact h.ins d hd hi
  · rw [new_free]
    obtain ⟨hi1, hi2⟩ := h.ins c hc h1
    have hr : l.now < l.next := by
      have := h.rng c hc
      omega
    refine ⟨?_, ?_, h.hi, fun t h3 h4 => ?_, fun d hd => ?_, fun d e hd he => ?_, fun d hd hi => ?_⟩
    · have := h.lo; simp only; omega
    · simp only; omega
    · simp only at h3 h4 ⊢
      obtain ⟨d, hd, e⟩ := h.all t (by omega) h4
      exact ⟨d, hd, by rw [upI_other (by rintro rfl; omega)]; exact e⟩
    · simp only
      by_cases g : d = c
      · left; rw [g, upI_same]
      · rw [upI_other g]
        rcases h.rng d hd with e | e
        · exact Or.inl e
        · right
          have : ¬ l.mine d = l.now := fun q => g (h.one d c hd hc (q.trans hi1.symm) (by have := h.lo; omega))
          omega
    · simp only
      by_cases g : d = c
      · rw [g, upI_same]; intro _ q; exact absurd rfl q
      · by_cases g2 : e = c
        · rw [g2, upI_same, upI_other g]; intro q1 q2; exact absurd q1 q2
        · rw [upI_other g, upI_other g2]; exact h.one d e hd he
    · simp only at hi ⊢
      by_cases g : d = c
      · rw [g, upB_same] at hi; cases hi
      · rw [upB_other g] at hi
        exact absurd (h.one_in hd hc hi h1) g
/-- Is the core in, behind a step? -/
def inT (l : LockT) (k : Int) (c : Nat) : Bool := (newT l k c).inn c
theorem in_ask {l : LockT} (h : Rt l) {c : Nat} (hc : c < 8) (hm : l.mine c = -1) : inT l 1 c = false := by
  unfold inT; rw [new_ask]; exact h.free_no hc hm
theorem in_look (l : LockT) (c : Nat) : inT l 2 c = decide (l.mine c = l.now) := by
  unfold inT; rw [new_look]; exact upB_same _ _ _
theorem in_free (l : LockT) (c : Nat) : inT l 3 c = false := by
  unfold inT; rw [new_free]; exact upB_same _ _ _
/-- Which error a step has; 0: none. -/
def errT (ok : Bool) (l : LockT) (k c : Int) : Int :=
  if ok = false then 1 else if ¬ (k = 1 ∨ k = 2 ∨ k = 3) then 5 else if c < 0 ∨ 7 < c then 2
  else if k = 1 ∧ ¬ l.mine c.toNat = -1 then 6 else if k = 1 ∧ l.next = 1099511627776 then 4
  else if (k = 2 ∧ l.mine c.toNat = -1) ∨ (k = 3 ∧ l.inn c.toNat = false) then 3 else 0
theorem errT_zero {l : LockT} (h : Rt l) {k c : Int} (e : errT true l k c = 0) : ∃ n : Nat, c = n ∧ OkT l k n := by
  unfold errT at e
  rw [if_neg (by decide)] at e
  by_cases g1 : ¬ (k = 1 ∨ k = 2 ∨ k = 3)
  · rw [if_pos g1] at e; cases e
  rw [if_neg g1] at e
  by_cases g2 : c < 0 ∨ 7 < c
  · rw [if_pos g2] at e; cases e
  rw [if_neg g2] at e
  by_cases g3 : k = 1 ∧ ¬ l.mine c.toNat = -1
  · rw [if_pos g3] at e; cases e
  rw [if_neg g3] at e
  by_cases g4 : k = 1 ∧ l.next = 1099511627776
  · rw [if_pos g4] at e; cases e
  rw [if_neg g4] at e
  by_cases g5 : (k = 2 ∧ l.mine c.toNat = -1) ∨ (k = 3 ∧ l.inn c.toNat = false)
  · rw [if_pos g5] at e; cases e
  have hh := h.hi
  refine ⟨c.toNat, by omega, by omega, ?_⟩
  rcases Classical.not_not.1 g1 with rfl | rfl | rfl
  · left
    refine ⟨rfl, ?_, ?_⟩
    · exact Classical.not_not.1 fun q => g3 ⟨rfl, q⟩
    · have : ¬ l.next = 1099511627776 := fun q => g4 ⟨rfl, q⟩
      omega
  · right; left
    exact ⟨rfl, fun q => g5 (Or.inl ⟨rfl, q⟩)⟩
  · right; right
    refine ⟨rfl, ?_⟩
    cases q : l.inn c.toNat with
    | true => rfl
    | false => exact absurd (Or.inr ⟨rfl, q⟩) g5
/-- One operation of many. -/
structure LopT where
  kind : Int
  core : Int
/-- The state of a run: the lock, who came in, who asked. -/
structure RunT where
  l : LockT
  es : List Int
  as : List Int
def r0 : RunT := ⟨l0, [], []⟩
def stepR (r : RunT) (o : LopT) : RunT :=
  if errT true r.l o.kind o.core = 0 then
    ⟨newT r.l o.kind o.core.toNat, if inT r.l o.kind o.core.toNat = true ∧ r.l.inn o.core.toNat = false then r.es ++ [o.core] else r.es, if o.kind = 1 then r.as ++ [o.core] else r.as⟩
  else r
def runT (ops : List LopT) : RunT := ops.foldl stepR r0
/-- Who asked first came in first. -/
structure FairT (r : RunT) : Prop where
  rt : Rt r.l
  len : (r.as.length : Int) = r.l.next
  who : ∀ t : Nat, r.l.now ≤ t → (t : Int) < r.l.next → ∃ c : Nat, c < 8 ∧ r.as[t]? = some (c : Int) ∧ r.l.mine c = t
  pre : r.es = r.as.take r.es.length
  cnt : ((∀ c, c < 8 → r.l.inn c = false) ∧ (r.es.length : Int) = r.l.now) ∨ ((∃ c, c < 8 ∧ r.l.inn c = true) ∧ (r.es.length : Int) = r.l.now + 1)
theorem fair_r0 : FairT r0 := ⟨rt_l0, rfl, fun t h1 h2 => by simp only [r0, l0] at h1 h2; omega, rfl, Or.inl ⟨fun _ _ => rfl, rfl⟩⟩
theorem FairT.le {r : RunT} (h : FairT r) : r.es.length ≤ r.as.length := by
  have h1 := h.len
  have h2 := h.rt.le
  rcases h.cnt with ⟨_, g⟩ | ⟨⟨c, hc, hi⟩, g⟩
  · omega
  · obtain ⟨q1, q2⟩ := h.rt.ins c hc hi
    have := h.rt.rng c hc
    omega
theorem FairT.step {r : RunT} (h : FairT r) (o : LopT) : FairT (stepR r o) := by
  unfold stepR
  by_cases he : errT true r.l o.kind o.core = 0
  · rw [if_pos he]
    obtain ⟨c, hc, ho⟩ := errT_zero h.rt he
    have hle := h.le
    have hrt := h.rt.step ho
    rw [hc, Int.toNat_natCast]
    obtain ⟨hc8, ⟨hk, h1, h2⟩ | ⟨hk, h1⟩ | ⟨hk, h1⟩⟩ := ho
    · rw [hk] at hrt ⊢
      rw [in_ask h.rt hc8 h1, if_neg (by rintro ⟨q, _⟩; cases q), if_pos rfl]
      have hf := h.rt.free_no hc8 h1
      rw [new_ask] at hrt ⊢
      refine ⟨hrt, ?_, fun t h3 h4 => ?_, ?_, ?_⟩
      · simp only [List.length_append, List.length_singleton]
        have := h.len; omega
      · simp only at h3 h4 ⊢
        by_cases g : (t : Int) = r.l.next
        · refine ⟨c, hc8, ?_, by rw [upI_same, g]⟩
          have : t = r.as.length := by have := h.len; omega
          rw [this]; simp
        · obtain ⟨d, hd, e1, e2⟩ := h.who t h3 (by omega)
          refine ⟨d, hd, ?_, ?_⟩
          · rw [List.getElem?_append_left (by have := h.len; omega)]; exact e1
          · rw [upI_other (by rintro rfl; omega)]; exact e2
      · simp only
        rw [List.take_append_of_le_length hle]; exact h.pre
      · exact h.cnt
    · rw [hk] at hrt ⊢
      rw [in_look, if_neg (show ¬ (2 : Int) = 1 by decide)]
      by_cases g : r.l.mine c = r.l.now
      · cases hi : r.l.inn c with
        | true =>
          rw [if_neg (by rintro ⟨_, q⟩; cases q)]
          rw [new_look] at hrt ⊢
          refine ⟨hrt, h.len, h.who, h.pre, Or.inr ⟨⟨c, hc8, ?_⟩, ?_⟩⟩
          · simp only [upB_same]; exact decide_eq_true g
          · rcases h.cnt with ⟨q, _⟩ | ⟨_, q⟩
            · rw [q c hc8] at hi; cases hi
            · exact q
        | false =>
          rw [if_pos ⟨decide_eq_true g, rfl⟩]
          rw [new_look] at hrt ⊢
          have hno : ∀ d, d < 8 → r.l.inn d = false := fun d hd => by
            cases q : r.l.inn d with
            | false => rfl
            | true =>
              obtain ⟨q1, q2⟩ := h.rt.ins d hd q
              have := h.rt.one d c hd hc8 (q1.trans g.symm) q2
              rw [this, hi] at q; cases q
          have hl : (r.es.length : Int) = r.l.now := by
            rcases h.cnt with ⟨_, q⟩ | ⟨⟨d, hd, q⟩, _⟩
            · exact q
            · rw [hno d hd] at q; cases q
          have hlt : r.l.now < r.l.next := by have := h.rt.rng c hc8; omega
          obtain ⟨d, hd, e1, e2⟩ := h.who r.es.length (by omega) (by omega)
          have hdc : d = c := h.rt.one d c hd hc8 (by rw [e2, g]; exact hl) (by rw [e2]; omega)
          subst hdc
          refine ⟨hrt, h.len, h.who, ?_, Or.inr ⟨⟨d, hc8, ?_⟩, ?_⟩⟩
          · simp only [List.length_append, List.length_singleton]
            rw [List.take_add_one, e1, ← h.pre]; rfl
          · simp only [upB_same]; exact decide_eq_true g
          · simp only [List.length_append, List.length_singleton]; omega
      · have hi : r.l.inn c = false := by
          cases q : r.l.inn c with
          | false => rfl
          | true => exact absurd (h.rt.ins c hc8 q).1 g
        rw [if_neg (by rintro ⟨q, _⟩; exact g (of_decide_eq_true q))]
        rw [new_look] at hrt ⊢
        have hs : ∀ d, upB r.l.inn c (decide (r.l.mine c = r.l.now)) d = r.l.inn d := fun d => by
          by_cases q : d = c
          · rw [q, upB_same, hi]; exact decide_eq_false g
          · rw [upB_other q]
        refine ⟨hrt, h.len, h.who, h.pre, ?_⟩
        simp only [hs]
        exact h.cnt
    · rw [hk] at hrt ⊢
      rw [in_free, if_neg (by rintro ⟨q, _⟩; cases q), if_neg (show ¬ (3 : Int) = 1 by decide)]
      rw [new_free] at hrt ⊢
      obtain ⟨q1, q2⟩ := h.rt.ins c hc8 h1
      refine ⟨hrt, h.len, fun t h3 h4 => ?_, h.pre, Or.inl ⟨fun d hd => ?_, ?_⟩⟩
      · simp only at h3 h4 ⊢
        obtain ⟨d, hd, e1, e2⟩ := h.who t (by omega) h4
        exact ⟨d, hd, e1, by rw [upI_other (by rintro rfl; omega)]; exact e2⟩
      · simp only
        by_cases g : d = c
        · rw [g, upB_same]
        · rw [upB_other g]
          cases q : r.l.inn d with
          | false => rfl
          | true => exact absurd (h.rt.one_in hd hc8 q h1) g
      · rcases h.cnt with ⟨g, _⟩ | ⟨_, g⟩
        · rw [g c hc8] at h1; cases h1
        · simp only; omega
  · rw [if_neg he]; exact h
theorem fair_run (ops : List LopT) : FairT (runT ops) := by
  have : ∀ (ops : List LopT) (r : RunT), FairT r → FairT (ops.foldl stepR r) := by
    intro ops
    induction ops with
    | nil => intro r h; exact h
    | cons o ops ih => intro r h; exact ih _ (h.step o)
  exact this ops r0 fair_r0
theorem run_snoc (ops : List LopT) (o : LopT) : runT (ops ++ [o]) = stepR (runT ops) o := by
  unfold runT; rw [List.foldl_append]; rfl
end Go.Proofs.Ytfepgebnaglkaaa
