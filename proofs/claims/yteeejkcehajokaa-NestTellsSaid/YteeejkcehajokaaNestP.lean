/- Plain facts on nested disabling: when a core is right, what a step makes of it, runs. No program in sight. -/
namespace Go.Proofs.Yteeejkcehajokaa

structure FrT where
  on : Bool
  irq : Bool
structure CoreT where
  on : Bool
  kept : List FrT
/-- What a frame at place k must be. -/
def FrOk (k : Nat) (f : FrT) : Prop := (0 < k → f.on = false ∧ f.irq = false) ∧ (f.irq = true → f.on = true)
/-- When a core is right. -/
structure RtN (c : CoreT) : Prop where
  len : c.kept.length ≤ 400
  off : c.on = true → c.kept = []
  fr : ∀ k f, c.kept[k]? = some f → FrOk k f
/-- Which error a step has; 0: none. -/
def errN (ok : Bool) (c : CoreT) (kind : Int) : Int :=
  if ok = false then 1 else if kind < 1 ∨ 4 < kind then 5
  else if kind = 1 ∨ kind = 3 then (if 400 ≤ c.kept.length then 4 else if kind = 3 ∧ c.on = false then 7 else 0)
  else match c.kept.getLast? with
    | none => 3
    | some f => if f.irq = decide (kind = 2) then 8 else 0
def pushN (c : CoreT) (irq : Bool) : CoreT := ⟨false, c.kept ++ [⟨c.on, irq⟩]⟩
def popN (c : CoreT) (f : FrT) : CoreT := ⟨f.on, c.kept.dropLast⟩
theorem rt_push {c : CoreT} (h : RtN c) (irq : Bool) (h4 : ¬ 400 ≤ c.kept.length) (hi : irq = true → c.on = true) : RtN (pushN c irq) := by
  refine ⟨by simp only [pushN, List.length_append, List.length_singleton]; omega, (fun e => by cases e), fun k f e => ?_⟩
  simp only [pushN] at e
  by_cases g : k < c.kept.length
  · rw [List.getElem?_append_left g] at e
    exact h.fr k f e
  · rw [List.getElem?_append_right (by omega)] at e
    obtain ⟨z, hz⟩ : ∃ z, k - c.kept.length = z := ⟨_, rfl⟩
    rw [hz] at e
    cases z with
    | succ z => simp at e
    | zero =>
      simp only [List.getElem?_cons_zero, Option.some.injEq] at e
      subst e
      refine ⟨fun hk => ?_, hi⟩
      have hon : c.on = false := by
        cases q : c.on with
        | false => rfl
        | true =>
          have := h.off q
          rw [this] at hz g
          simp at hz
          omega
      refine ⟨hon, ?_⟩
      cases q : irq with
      | false => rfl
      | true => rw [hi q] at hon; cases hon
theorem last_at {c : CoreT} {f : FrT} (hl : c.kept.getLast? = some f) : c.kept = c.kept.dropLast ++ [f] := by
  cases e : c.kept with
  | nil => rw [e] at hl; cases hl
  | cons a l =>
    rw [e, List.getLast?_eq_some_getLast (by simp)] at hl
    have := Option.some.inj hl
    rw [← this]
    exact (List.dropLast_concat_getLast (by simp)).symm
theorem rt_pop {c : CoreT} (h : RtN c) {f : FrT} (hl : c.kept.getLast? = some f) : RtN (popN c f) := by
  have e := last_at hl
  have hlen : c.kept.length = c.kept.dropLast.length + 1 := by
    have := congrArg List.length e
    simpa using this
  refine ⟨by simp only [popN]; have := h.len; omega, fun ho => ?_, fun k g hk => ?_⟩
  · simp only [popN] at ho ⊢
    have hf := h.fr (c.kept.length - 1) f (by rw [List.getLast?_eq_getElem?] at hl; exact hl)
    by_cases g : 0 < c.kept.length - 1
    · rw [(hf.1 g).1] at ho; cases ho
    · exact List.eq_nil_of_length_eq_zero (by omega)
  · simp only [popN] at hk
    refine h.fr k g ?_
    have hk2 := (List.getElem?_eq_some_iff.1 hk).1
    rw [e, List.getElem?_append_left hk2]
    exact hk
theorem push_last (c : CoreT) (irq : Bool) : (pushN c irq).kept.getLast? = some ⟨c.on, irq⟩ := by simp [pushN]
/-- WHAT WAS SAVED IS RESTORED. -/
theorem pop_push (c : CoreT) (irq : Bool) : popN (pushN c irq) ⟨c.on, irq⟩ = c := by
  cases c; simp [popN, pushN]
/-- What a step makes of a core, where nothing speaks against it. -/
def newN (c : CoreT) (kind : Int) : CoreT :=
  if kind = 1 then pushN c false else if kind = 3 then pushN c true
  else match c.kept.getLast? with
    | none => c
    | some f => popN c f
theorem new_save (c : CoreT) : newN c 1 = pushN c false := if_pos rfl
theorem new_enter (c : CoreT) : newN c 3 = pushN c true := by unfold newN; rw [if_neg (by decide), if_pos rfl]
theorem new_pop {c : CoreT} {kind : Int} {f : FrT} (h1 : ¬ kind = 1) (h3 : ¬ kind = 3) (hl : c.kept.getLast? = some f) : newN c kind = popN c f := by
  unfold newN; rw [if_neg h1, if_neg h3, hl]
/-- What it means that a step has no error. -/
theorem errN_zero {c : CoreT} {kind : Int} (e : errN true c kind = 0) :
    (kind = 1 ∧ ¬ 400 ≤ c.kept.length) ∨ (kind = 3 ∧ ¬ 400 ≤ c.kept.length ∧ c.on = true) ∨ ((kind = 2 ∨ kind = 4) ∧ ∃ f, c.kept.getLast? = some f ∧ f.irq = decide (kind = 4)) := by
  unfold errN at e
  rw [if_neg (by decide)] at e
  by_cases g : kind < 1 ∨ 4 < kind
  · rw [if_pos g] at e; cases e
  rw [if_neg g] at e
  by_cases g2 : kind = 1 ∨ kind = 3
  · rw [if_pos g2] at e
    by_cases g3 : 400 ≤ c.kept.length
    · rw [if_pos g3] at e; cases e
    rw [if_neg g3] at e
    by_cases g4 : kind = 3 ∧ c.on = false
    · rw [if_pos g4] at e; cases e
    rcases g2 with rfl | rfl
    · exact Or.inl ⟨rfl, g3⟩
    · right; left
      refine ⟨rfl, g3, ?_⟩
      cases q : c.on with
      | true => rfl
      | false => exact absurd ⟨rfl, q⟩ g4
  · rw [if_neg g2] at e
    right; right
    have hk : kind = 2 ∨ kind = 4 := by omega
    refine ⟨hk, ?_⟩
    cases hl : c.kept.getLast? with
    | none => rw [hl] at e; cases e
    | some f =>
      rw [hl] at e
      simp only at e
      by_cases q : f.irq = decide (kind = 2)
      · rw [if_pos q] at e; cases e
      · refine ⟨f, rfl, ?_⟩
        rcases hk with rfl | rfl <;> (cases hq : f.irq <;> simp_all)
theorem RtN.step {c : CoreT} (h : RtN c) {kind : Int} (e : errN true c kind = 0) : RtN (newN c kind) := by
  rcases errN_zero e with ⟨rfl, h4⟩ | ⟨rfl, h4, ho⟩ | ⟨hk, f, hl, _⟩
  · rw [new_save]; exact rt_push h false h4 (fun q => by cases q)
  · rw [new_enter]; exact rt_push h true h4 (fun _ => ho)
  · rw [new_pop (by omega) (by omega) hl]; exact rt_pop h hl
theorem save_back {c : CoreT} : errN true (pushN c false) 2 = 0 ∧ newN (pushN c false) 2 = c := by
  refine ⟨?_, by rw [new_pop (by decide) (by decide) (push_last c false), pop_push]⟩
  unfold errN
  rw [if_neg (by decide), if_neg (by decide), if_neg (by decide), push_last]
  rfl
theorem enter_back {c : CoreT} : errN true (pushN c true) 4 = 0 ∧ newN (pushN c true) 4 = c := by
  refine ⟨?_, by rw [new_pop (by decide) (by decide) (push_last c true), pop_push]⟩
  unfold errN
  rw [if_neg (by decide), if_neg (by decide), if_neg (by decide), push_last]
  rfl
/-- A run: the errors and the core. -/
def stepRN (r : List Int × CoreT) (kind : Int) : List Int × CoreT :=
  (r.1 ++ [errN true r.2 kind], if errN true r.2 kind = 0 then newN r.2 kind else r.2)
def c0N : CoreT := ⟨true, []⟩
def runN (kinds : List Int) : List Int × CoreT := kinds.foldl stepRN ([], c0N)
theorem runN_snoc (kinds : List Int) (k : Int) : runN (kinds ++ [k]) = stepRN (runN kinds) k := by
  unfold runN; rw [List.foldl_append]; rfl
/-- A core that began as it must: right, and on only where nothing is kept. -/
structure EvN (c : CoreT) : Prop where
  rt : RtN c
  ev : (c.kept = [] ∧ c.on = true) ∨ (c.on = false ∧ ∃ f l, c.kept = f :: l ∧ f.on = true)
theorem ev_c0 : EvN c0N := ⟨⟨by decide, fun _ => rfl, fun k f e => by simp [c0N] at e⟩, Or.inl ⟨rfl, rfl⟩⟩
theorem EvN.step {c : CoreT} (h : EvN c) {kind : Int} (e : errN true c kind = 0) : EvN (newN c kind) := by
  have hr := h.rt.step e
  refine ⟨hr, ?_⟩
  have push : ∀ irq, (pushN c irq).on = false ∧ ∃ f l, (pushN c irq).kept = f :: l ∧ f.on = true := fun irq => by
    refine ⟨rfl, ?_⟩
    rcases h.ev with ⟨h1, h2⟩ | ⟨_, f, l, h1, h2⟩
    · exact ⟨⟨c.on, irq⟩, [], by simp [pushN, h1], h2⟩
    · exact ⟨f, l ++ [⟨c.on, irq⟩], by simp [pushN, h1], h2⟩
  rcases errN_zero e with ⟨rfl, h4⟩ | ⟨rfl, h4, ho⟩ | ⟨hk, f, hl, _⟩
  · rw [new_save]; exact Or.inr (push false)
  · rw [new_enter]; exact Or.inr (push true)
  · rw [new_pop (by omega) (by omega) hl] at hr ⊢
    rcases h.ev with ⟨h1, _⟩ | ⟨_, g, l, h1, h2⟩
    · rw [h1] at hl; cases hl
    · cases l with
      | nil =>
        rw [h1] at hl
        have : g = f := Option.some.inj hl
        left
        exact ⟨by simp [popN, h1], by simp only [popN]; rw [← this]; exact h2⟩
      | cons a l =>
        right
        have hf := h.rt.fr (c.kept.length - 1) f (by rw [List.getLast?_eq_getElem?] at hl; exact hl)
        have h0 : 0 < c.kept.length - 1 := by rw [h1]; simp
        refine ⟨(hf.1 h0).1, g, (a :: l).dropLast, ?_, h2⟩
        simp [popN, h1]
theorem ev_run (kinds : List Int) : EvN (runN kinds).2 := by
  have : ∀ (ks : List Int) (r : List Int × CoreT), EvN r.2 → EvN (ks.foldl stepRN r).2 := by
    intro ks
    induction ks with
    | nil => intro r h; exact h
    | cons k ks ih =>
      intro r h
      refine ih _ ?_
      unfold stepRN
      by_cases e : errN true r.2 k = 0
      · simp only [if_pos e]; exact h.step e
      · simp only [if_neg e]; exact h
  exact this kinds _ ev_c0
/-- How deep: as many frames as were begun, and not ended. -/
theorem depth_step {c : CoreT} {kind : Int} (e : errN true c kind = 0) : ((newN c kind).kept.length : Int) = if kind = 1 ∨ kind = 3 then (c.kept.length : Int) + 1 else (c.kept.length : Int) - 1 := by
  rcases errN_zero e with ⟨rfl, h4⟩ | ⟨rfl, h4, ho⟩ | ⟨hk, f, hl, _⟩
  · rw [new_save, if_pos (Or.inl rfl)]; simp [pushN]
  · rw [new_enter, if_pos (Or.inr rfl)]; simp [pushN]
  · rw [new_pop (by omega) (by omega) hl, if_neg (by omega)]
    have := congrArg List.length (last_at hl)
    simp only [List.length_append, List.length_singleton] at this
    simp only [popN]
    omega
/-- Whoever is let in, is let in where nothing is kept. -/
theorem enter_empty {c : CoreT} (h : RtN c) (e : errN true c 3 = 0) : c.kept = [] := by
  rcases errN_zero e with ⟨q, _⟩ | ⟨_, _, ho⟩ | ⟨hk, _⟩
  · omega
  · exact h.off ho
  · omega
end Go.Proofs.Yteeejkcehajokaa
