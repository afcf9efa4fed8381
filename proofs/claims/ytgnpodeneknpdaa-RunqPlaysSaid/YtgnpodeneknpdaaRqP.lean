/- Rings of blocks, in plain terms: who stands behind whom, by two functions; how they tell the queue. No program in sight. -/
import Derived.Test.YtgnpodeneknpdaaRunqP
namespace Go.Proofs.Ytgnpodeneknpdaa

def upN (f : Nat → Nat) (i v : Nat) : Nat → Nat := fun j => if j = i then v else f j
theorem upN_same {f : Nat → Nat} {i v : Nat} : upN f i v i = v := if_pos rfl
theorem upN_other {f : Nat → Nat} {i v j : Nat} (h : ¬ j = i) : upN f i v j = f j := if_neg h
/-- From a through l to b. -/
def Way (nx pv : Nat → Nat) : Nat → List Nat → Nat → Prop
  | a, [], b => nx a = b ∧ pv b = a
  | a, x :: l, b => (nx a = x ∧ pv x = a) ∧ Way nx pv x l b
section
variable {nx pv nx' pv' : Nat → Nat}
theorem way_app : ∀ {l1 l2 : List Nat} {a x b : Nat}, Way nx pv a (l1 ++ x :: l2) b ↔ Way nx pv a l1 x ∧ Way nx pv x l2 b
  | [], l2, a, x, b => Iff.rfl
  | y :: l1, l2, a, x, b => by
    show (nx a = y ∧ pv y = a) ∧ Way nx pv y (l1 ++ x :: l2) b ↔ ((nx a = y ∧ pv y = a) ∧ Way nx pv y l1 x) ∧ _
    rw [way_app]
    exact and_assoc.symm
theorem way_congr : ∀ {l : List Nat} {a b : Nat}, (∀ x, x = a ∨ x ∈ l → nx' x = nx x) → (∀ x, x ∈ l ∨ x = b → pv' x = pv x) → Way nx pv a l b → Way nx' pv' a l b
  | [], a, b, h1, h2, h => ⟨(h1 a (Or.inl rfl)).trans h.1, (h2 b (Or.inr rfl)).trans h.2⟩
  | x :: _, a, _, h1, h2, h => ⟨⟨(h1 a (Or.inl rfl)).trans h.1.1, (h2 x (Or.inl List.mem_cons_self)).trans h.1.2⟩,
      way_congr (fun y hy => h1 y (hy.elim (fun e => Or.inr (e ▸ List.mem_cons_self)) fun e => Or.inr (List.mem_cons_of_mem _ e))) (fun y hy => h2 y (hy.elim (fun e => Or.inl (List.mem_cons_of_mem _ e)) Or.inr)) h.2⟩
/-- Who stands last; who stands first. -/
def lastN (a : Nat) (l : List Nat) : Nat := l.getLast?.getD a
def headN (l : List Nat) (b : Nat) : Nat := l.head?.getD b
theorem way_head {a b : Nat} {l : List Nat} (h : Way nx pv a l b) : nx a = headN l b := by
  cases l with
  | nil => exact h.1
  | cons x l => exact h.1.1
theorem last_snoc (a : Nat) (l : List Nat) (x : Nat) : lastN a (l ++ [x]) = x := by simp [lastN]
theorem way_last {a b : Nat} {l : List Nat} (h : Way nx pv a l b) : pv b = lastN a l := by
  rcases List.eq_nil_or_concat l with rfl | ⟨l', x, rfl⟩
  · exact h.2
  · rw [List.concat_eq_append] at h ⊢
    rw [last_snoc]
    exact (way_app.1 h).2.2
theorem last_mem (a : Nat) (l : List Nat) : lastN a l = a ∨ lastN a l ∈ l := by
  rcases List.eq_nil_or_concat l with rfl | ⟨l', x, rfl⟩
  · exact Or.inl rfl
  · rw [List.concat_eq_append, last_snoc]
    exact Or.inr (by simp)
theorem head_mem (b : Nat) (l : List Nat) : headN l b = b ∨ headN l b ∈ l := by
  cases l with
  | nil => exact Or.inl rfl
  | cons x l => exact Or.inr List.mem_cons_self
/-- One put between. -/
theorem way_ins {e p : Nat} {l1 l2 : List Nat} (h : Way nx pv e (l1 ++ l2) e) (nd : (e :: (l1 ++ l2)).Nodup) (hp : ¬ p = e) (hpl : ¬ p ∈ l1 ++ l2) :
    nx (lastN e l1) = headN l2 e ∧ Way (upN (upN nx p (headN l2 e)) (lastN e l1) p) (upN (upN pv p (lastN e l1)) (headN l2 e) p) e (l1 ++ p :: l2) e := by
  rw [way_app]
  have nd1 := (List.nodup_cons.1 nd).1
  have nd2 := List.nodup_append.1 (List.nodup_cons.1 nd).2
  rcases List.eq_nil_or_concat l1 with rfl | ⟨l1', x, rfl⟩
  · cases l2 with
    | nil =>
      have h0 : nx e = e ∧ pv e = e := h
      refine ⟨h0.1, ⟨upN_same, ?_⟩, ?_, upN_same⟩
      · show upN (upN pv p e) e p p = e
        rw [upN_other hp, upN_same]
      · show upN (upN nx p e) e p p = e
        rw [upN_other hp, upN_same]
    | cons y l2 =>
      have h0 : (nx e = y ∧ pv y = e) ∧ Way nx pv y l2 e := h
      simp only [List.nil_append, List.mem_cons, not_or, List.nodup_cons] at hpl nd1 nd2
      obtain ⟨-, ⟨ny, n2⟩, -⟩ := nd2
      refine ⟨h0.1.1, ⟨upN_same, ?_⟩, ⟨?_, upN_same⟩, ?_⟩
      · show upN (upN pv p e) y p p = e
        rw [upN_other hpl.1, upN_same]
      · show upN (upN nx p y) e p p = y
        rw [upN_other hp, upN_same]
      · refine way_congr (fun z hz => ?_) (fun z hz => ?_) h0.2
        · have a1 : ¬ z = e := by rintro rfl; rcases hz with h | h; exact nd1.1 h; exact nd1.2 h
          have a2 : ¬ z = p := by rintro rfl; rcases hz with h | h; exact hpl.1 h; exact hpl.2 h
          show upN (upN nx p y) e p z = _
          rw [upN_other a1, upN_other a2]
        · have a1 : ¬ z = y := by rintro rfl; rcases hz with h | h; exact ny h; exact nd1.1 h.symm
          have a2 : ¬ z = p := by rintro rfl; rcases hz with h | h; exact hpl.2 h; exact hp h
          show upN (upN pv p e) y p z = _
          rw [upN_other a1, upN_other a2]
  · rw [List.concat_eq_append] at *
    rw [last_snoc]
    have hpx : ¬ p = x := fun e => hpl (by simp [e])
    have hpl1 : ¬ p ∈ l1' := fun e => hpl (by simp [e])
    have nx1 : ¬ e = x := fun e' => nd1 (by simp [e'])
    have nx2 : ¬ e ∈ l1' := fun e' => nd1 (by simp [e'])
    have nd3 : ¬ x ∈ l1' := fun e' => by
      have := List.nodup_append.1 nd2.1
      exact this.2.2 x e' x (by simp) rfl
    rw [List.append_assoc, List.singleton_append] at h
    cases l2 with
    | nil =>
      have h1 := way_app.1 h
      obtain ⟨ha, hb⟩ := h1
      have hb' : nx x = e ∧ pv e = x := hb
      refine ⟨hb'.1, ?_, ?_, upN_same⟩
      · rw [way_app]
        refine ⟨way_congr (fun z hz => ?_) (fun z hz => ?_) ha, upN_same, ?_⟩
        · have a1 : ¬ z = x := by rintro rfl; rcases hz with h | h; exact nx1 h.symm; exact nd3 h
          have a2 : ¬ z = p := by rintro rfl; rcases hz with h | h; exact hp h; exact hpl1 h
          rw [upN_other a1, upN_other a2]
        · have a1 : ¬ z = e := by rintro rfl; rcases hz with h | h; exact nx2 h; exact nx1 h
          have a2 : ¬ z = p := by rintro rfl; rcases hz with h | h; exact hpl1 h; exact hpx h
          show upN (upN pv p x) e p z = _
          rw [upN_other a1, upN_other a2]
        · show upN (upN pv p x) e p p = x
          rw [upN_other hp, upN_same]
      · show upN (upN nx p e) x p p = e
        rw [upN_other hpx, upN_same]
    | cons y l2 =>
      obtain ⟨ha, hb⟩ := way_app.1 h
      have hb' : (nx x = y ∧ pv y = x) ∧ Way nx pv y l2 e := hb
      have hpy : ¬ p = y := fun e => hpl (by simp [e])
      have hpl2 : ¬ p ∈ l2 := fun e => hpl (by simp [e])
      have ney : ¬ e = y := fun e' => nd1 (by simp [e'])
      have nel : ¬ e ∈ l2 := fun e' => nd1 (by simp [e'])
      have nyl : ¬ y ∈ l2 := (List.nodup_cons.1 nd2.2.1).1
      have nyx : ∀ z, z ∈ l1' ++ [x] → ∀ u, u ∈ y :: l2 → z ≠ u := nd2.2.2
      refine ⟨hb'.1.1, ?_, ⟨?_, upN_same⟩, ?_⟩
      · rw [way_app]
        refine ⟨way_congr (fun z hz => ?_) (fun z hz => ?_) ha, upN_same, ?_⟩
        · have a1 : ¬ z = x := by rintro rfl; rcases hz with h | h; exact nx1 h.symm; exact nd3 h
          have a2 : ¬ z = p := by rintro rfl; rcases hz with h | h; exact hp h; exact hpl1 h
          rw [upN_other a1, upN_other a2]
        · have a1 : ¬ z = y := fun e' => nyx z (by rcases hz with h | h <;> simp [h]) y (by simp) e'
          have a2 : ¬ z = p := by rintro rfl; rcases hz with h | h; exact hpl1 h; exact hpx h
          show upN (upN pv p x) y p z = _
          rw [upN_other a1, upN_other a2]
        · show upN (upN pv p x) y p p = x
          rw [upN_other hpy, upN_same]
      · show upN (upN nx p y) x p p = y
        rw [upN_other hpx, upN_same]
      · refine way_congr (fun z hz => ?_) (fun z hz => ?_) hb'.2
        · have a1 : ¬ z = x := fun e' => nyx x (by simp) z (by rcases hz with h | h <;> simp [h]) e'.symm
          have a2 : ¬ z = p := by rintro rfl; rcases hz with h | h; exact hpy h; exact hpl2 h
          show upN (upN nx p y) x p z = _
          rw [upN_other a1, upN_other a2]
        · have a1 : ¬ z = y := by rintro rfl; rcases hz with h | h; exact nyl h; exact ney h.symm
          have a2 : ¬ z = p := by rintro rfl; rcases hz with h | h; exact hpl2 h; exact hp h
          show upN (upN pv p x) y p z = _
          rw [upN_other a1, upN_other a2]
/-- One taken out. -/
theorem way_rem {e p : Nat} {l1 l2 : List Nat} (h : Way nx pv e (l1 ++ p :: l2) e) (nd : (e :: (l1 ++ p :: l2)).Nodup) :
    pv p = lastN e l1 ∧ nx p = headN l2 e ∧ Way (upN nx (lastN e l1) (headN l2 e)) (upN pv (headN l2 e) (lastN e l1)) e (l1 ++ l2) e := by
  obtain ⟨ha, hb⟩ := way_app.1 h
  refine ⟨way_last ha, way_head hb, ?_⟩
  have nd1 := (List.nodup_cons.1 nd).1
  have nd2 := List.nodup_append.1 (List.nodup_cons.1 nd).2
  rcases List.eq_nil_or_concat l1 with rfl | ⟨l1', x, rfl⟩
  · cases l2 with
    | nil => exact ⟨upN_same, upN_same⟩
    | cons y l2 =>
      have hb' : (nx p = y ∧ pv y = p) ∧ Way nx pv y l2 e := hb
      simp only [List.nil_append, List.mem_cons, not_or, List.nodup_cons] at nd1 nd2
      obtain ⟨-, ⟨-, ny, -⟩, -⟩ := nd2
      refine ⟨⟨upN_same, upN_same⟩, way_congr (fun z hz => ?_) (fun z hz => ?_) hb'.2⟩
      · have a1 : ¬ z = e := by rintro rfl; rcases hz with h | h; exact nd1.2.1 h; exact nd1.2.2 h
        exact upN_other a1
      · have a1 : ¬ z = y := by rintro rfl; rcases hz with h | h; exact ny h; exact nd1.2.1 h.symm
        exact upN_other a1
  · rw [List.concat_eq_append] at *
    rw [last_snoc]
    have nx1 : ¬ e = x := fun e' => nd1 (by simp [e'])
    have nx2 : ¬ e ∈ l1' := fun e' => nd1 (by simp [e'])
    have nd3 : ¬ x ∈ l1' := fun e' => by
      have := List.nodup_append.1 nd2.1
      exact this.2.2 x e' x (by simp) rfl
    obtain ⟨ha1, ha2⟩ := way_app.1 ha
    rw [List.append_assoc, List.singleton_append, way_app]
    cases l2 with
    | nil =>
      refine ⟨way_congr (fun z hz => ?_) (fun z hz => ?_) ha1, upN_same, upN_same⟩
      · have a1 : ¬ z = x := by rintro rfl; rcases hz with h | h; exact nx1 h.symm; exact nd3 h
        exact upN_other a1
      · have a1 : ¬ z = e := by rintro rfl; rcases hz with h | h; exact nx2 h; exact nx1 h
        exact upN_other a1
    | cons y l2 =>
      have hb' : (nx p = y ∧ pv y = p) ∧ Way nx pv y l2 e := hb
      have ney : ¬ e = y := fun e' => nd1 (by simp [e'])
      have nel : ¬ e ∈ l2 := fun e' => nd1 (by simp [e'])
      have nyl : ¬ y ∈ l2 := (List.nodup_cons.1 (List.nodup_cons.1 nd2.2.1).2).1
      have nyx : ∀ z, z ∈ l1' ++ [x] → ∀ u, u ∈ p :: y :: l2 → z ≠ u := nd2.2.2
      refine ⟨way_congr (fun z hz => ?_) (fun z hz => ?_) ha1, ⟨upN_same, upN_same⟩, way_congr (fun z hz => ?_) (fun z hz => ?_) hb'.2⟩
      · have a1 : ¬ z = x := by rintro rfl; rcases hz with h | h; exact nx1 h.symm; exact nd3 h
        exact upN_other a1
      · have a1 : ¬ z = y := fun e' => nyx z (by rcases hz with h | h <;> simp [h]) y (by simp) e'
        exact upN_other a1
      · have a1 : ¬ z = x := fun e' => nyx x (by simp) z (by rcases hz with h | h <;> simp [h]) e'.symm
        exact upN_other a1
      · have a1 : ¬ z = y := by rintro rfl; rcases hz with h | h; exact nyl h; exact ney h.symm
        exact upN_other a1
end
/-- What the memory's rings are. -/
structure Gq where
  e : Nat → Nat
  nx : Nat → Nat
  pv : Nat → Nat
  id : Nat → Int
  L : Nat → List Nat
  own : Nat → Nat
  f : Int → Option Nat
/-- They tell the queue. -/
structure TellQ (g : Gq) (s : StU) : Prop where
  way : ∀ j, j < 32 → Way g.nx g.pv (g.e j) (g.L j) (g.e j)
  nd : ∀ j, j < 32 → (g.e j :: g.L j).Nodup
  ow : ∀ j, j < 32 → ∀ b, b ∈ g.e j :: g.L j → g.own b = j
  ids : ∀ j : Nat, j < 32 → (g.L j).map g.id = lvlU s.list (j : Int)
  fs : ∀ i b, g.f i = some b ↔ ∃ j, j < 32 ∧ b ∈ g.L j ∧ g.id b = i
  good : GoodU s
section
variable {g : Gq} {s : StU}
theorem TellQ.node (h : TellQ g s) {i : Int} {b : Nat} (hf : g.f i = some b) : ∃ j, j < 32 ∧ b ∈ g.L j ∧ g.id b = i := (h.fs i b).1 hf
theorem TellQ.inj (h : TellQ g s) {j k b c : Nat} (hj : j < 32) (hk : k < 32) (hb : b ∈ g.L j) (hc : c ∈ g.L k) (e : g.id b = g.id c) : b = c := by
  have h1 := (h.fs (g.id c) b).2 ⟨j, hj, hb, e⟩
  have h2 := (h.fs (g.id c) c).2 ⟨k, hk, hc, rfl⟩
  rw [h1] at h2
  exact Option.some.inj h2
theorem lvl_mem {l : List EnT} {j i : Int} : i ∈ lvlU l j ↔ (i, j) ∈ l := by
  unfold lvlU
  rw [List.mem_map]
  constructor
  · rintro ⟨q, hq, rfl⟩
    rw [List.mem_filter] at hq
    have := of_decide_eq_true hq.2
    rw [← this]
    exact hq.1
  · intro hq
    exact ⟨(i, j), List.mem_filter.2 ⟨hq, by simp⟩, rfl⟩
theorem TellQ.held (h : TellQ g s) (i : Int) : (g.f i).isSome = heldU s i := by
  rw [Bool.eq_iff_iff, heldU_mem]
  constructor
  · intro hs
    obtain ⟨b, hb⟩ := Option.isSome_iff_exists.1 hs
    obtain ⟨j, hj, hm, rfl⟩ := h.node hb
    have : g.id b ∈ lvlU s.list (j : Int) := by rw [← h.ids j hj]; exact List.mem_map_of_mem hm
    exact List.mem_map.2 ⟨_, lvl_mem.1 this, rfl⟩
  · intro hi
    obtain ⟨q, hq, rfl⟩ := List.mem_map.1 hi
    have hr := h.good.rng q hq
    obtain ⟨j, hj⟩ : ∃ j : Nat, q.2 = (j : Int) := ⟨q.2.toNat, by omega⟩
    have hj32 : j < 32 := by omega
    have : q.1 ∈ lvlU s.list (j : Int) := lvl_mem.2 (by rw [← hj]; exact hq)
    rw [← h.ids j hj32] at this
    obtain ⟨b, hb, e⟩ := List.mem_map.1 this
    rw [(h.fs q.1 b).2 ⟨j, hj32, hb, e⟩]
    rfl
theorem TellQ.none (h : TellQ g s) : (∀ i, g.f i = Option.none) ↔ s.list = [] := by
  constructor
  · intro hn
    cases hl : s.list with
    | nil => rfl
    | cons q r =>
      have h1 : heldU s q.1 = true := heldU_mem.2 (by unfold leftU; rw [hl]; simp)
      rw [← h.held, hn] at h1
      cases h1
  · intro hl i
    have h1 := h.held i
    have h2 : heldU s i = false := by unfold heldU; rw [hl]; rfl
    rw [h2] at h1
    cases hf : g.f i with
    | none => rfl
    | some b => rw [hf] at h1; cases h1
/-- One put in. -/
def Gq.ins (g : Gq) (p : Nat) (i : Int) (l : Nat) (l1 l2 : List Nat) : Gq :=
  ⟨g.e, upN (upN g.nx p (headN l2 (g.e l))) (lastN (g.e l) l1) p, upN (upN g.pv p (lastN (g.e l) l1)) (headN l2 (g.e l)) p, fun b => if b = p then i else g.id b, fun j => if j = l then l1 ++ p :: l2 else g.L j, fun b => if b = p then l else g.own b, fun k => if k = i then some p else g.f k⟩
theorem TellQ.ins (h : TellQ g s) {p : Nat} {i : Int} {l : Nat} {l1 l2 : List Nat} (hl : l < 32) (hL : g.L l = l1 ++ l2) (hp : ∀ j, j < 32 → ¬ p ∈ g.e j :: g.L j) (hi : heldU s i = false)
    {s' : StU} (hg : GoodU s') (ho : ∀ j : Nat, ¬ j = l → lvlU s'.list (j : Int) = lvlU s.list (j : Int)) (hs : lvlU s'.list (l : Int) = l1.map g.id ++ i :: l2.map g.id) :
    g.nx (lastN (g.e l) l1) = headN l2 (g.e l) ∧ TellQ (g.ins p i l l1 l2) s' := by
  have hw := h.way l hl
  have hn := h.nd l hl
  rw [hL] at hw hn
  have hpl := hp l hl
  rw [hL, List.mem_cons, not_or] at hpl
  have key := way_ins hw hn hpl.1 hpl.2
  have hx1 : ∀ j, j < 32 → ¬ j = l → ∀ b, b ∈ g.e j :: g.L j → ¬ b = lastN (g.e l) l1 ∧ ¬ b = headN l2 (g.e l) ∧ ¬ b = p := by
    intro j hj hjl b hb
    have ob := h.ow j hj b hb
    refine ⟨?_, ?_, ?_⟩
    · rintro rfl
      have : lastN (g.e l) l1 ∈ g.e l :: g.L l := by
        rw [hL]
        rcases last_mem (g.e l) l1 with e | e
        · rw [e]; exact List.mem_cons_self
        · exact List.mem_cons_of_mem _ (List.mem_append_left _ e)
      exact hjl (ob.symm.trans (h.ow l hl _ this))
    · rintro rfl
      have : headN l2 (g.e l) ∈ g.e l :: g.L l := by
        rw [hL]
        rcases head_mem (g.e l) l2 with e | e
        · rw [e]; exact List.mem_cons_self
        · exact List.mem_cons_of_mem _ (List.mem_append_right _ e)
      exact hjl (ob.symm.trans (h.ow l hl _ this))
    · rintro rfl
      exact hp j hj hb
  have hid : ∀ j, j < 32 → ∀ b, b ∈ g.L j → (if b = p then i else g.id b) = g.id b := fun j hj b hb => if_neg (by rintro rfl; exact hp j hj (List.mem_cons_of_mem _ hb))
  have mem_l : ∀ b, b ∈ l1 ++ p :: l2 ↔ b = p ∨ b ∈ g.L l := by
    intro b
    rw [hL]
    simp only [List.mem_append, List.mem_cons]
    constructor
    · rintro (h | h | h) <;> simp [h]
    · rintro (h | h | h) <;> simp [h]
  refine ⟨key.1, ⟨?_, ?_, ?_, ?_, ?_, hg⟩⟩
  · intro j hj
    by_cases e : j = l
    · subst e
      show Way _ _ _ (if j = j then _ else _) _
      rw [if_pos rfl]
      exact key.2
    · show Way _ _ _ (if j = l then _ else _) _
      rw [if_neg e]
      have hx := hx1 j hj e
      refine way_congr (fun z hz => ?_) (fun z hz => ?_) (h.way j hj)
      · have := hx z (List.mem_cons.2 hz)
        show upN (upN _ _ _) _ _ z = _
        rw [upN_other this.1, upN_other this.2.2]
      · have := hx z (List.mem_cons.2 hz.symm)
        show upN (upN _ _ _) _ _ z = _
        rw [upN_other this.2.1, upN_other this.2.2]
  · intro j hj
    by_cases e : j = l
    · subst e
      show (g.e j :: (if j = j then _ else _)).Nodup
      rw [if_pos rfl]
      have n2 := hn
      rw [List.nodup_cons, List.nodup_append] at n2 ⊢
      refine ⟨?_, ?_⟩
      · rw [List.mem_append, List.mem_cons]
        rintro (q | q | q)
        · exact n2.1 (List.mem_append_left _ q)
        · exact hpl.1 q.symm
        · exact n2.1 (List.mem_append_right _ q)
      · refine ⟨n2.2.1, List.nodup_cons.2 ⟨fun q => hpl.2 (List.mem_append_right _ q), n2.2.2.1⟩, fun a ha b hb => ?_⟩
        rcases List.mem_cons.1 hb with rfl | hb
        · rintro rfl
          exact hpl.2 (List.mem_append_left _ ha)
        · exact n2.2.2.2 a ha b hb
    · show (g.e j :: (if j = l then _ else _)).Nodup
      rw [if_neg e]
      exact h.nd j hj
  · intro j hj b hb
    show (if b = p then l else g.own b) = j
    by_cases e : j = l
    · subst e
      replace hb : b ∈ g.e j :: (if j = j then l1 ++ p :: l2 else g.L j) := hb
      rw [if_pos rfl, List.mem_cons, mem_l] at hb
      by_cases e2 : b = p
      · rw [if_pos e2]
      · rw [if_neg e2]
        exact h.ow j hj b (by rcases hb with q | q | q; simp [q]; exact absurd q e2; simp [q])
    · replace hb : b ∈ g.e j :: (if j = l then l1 ++ p :: l2 else g.L j) := hb
      rw [if_neg e] at hb
      rw [if_neg (hx1 j hj e b hb).2.2]
      exact h.ow j hj b hb
  · intro j hj
    show List.map (fun b => if b = p then i else g.id b) (if j = l then l1 ++ p :: l2 else g.L j) = _
    by_cases e : j = l
    · subst e
      rw [if_pos rfl, hs, List.map_append, List.map_cons, if_pos rfl]
      congr 1
      · exact List.map_congr_left fun b hb => hid j hj b (by rw [hL]; exact List.mem_append_left _ hb)
      · congr 1
        exact List.map_congr_left fun b hb => hid j hj b (by rw [hL]; exact List.mem_append_right _ hb)
    · rw [if_neg e, ho j e, ← h.ids j hj]
      exact List.map_congr_left fun b hb => hid j hj b hb
  · intro k b
    show (if k = i then some p else g.f k) = some b ↔ ∃ j, j < 32 ∧ b ∈ (if j = l then l1 ++ p :: l2 else g.L j) ∧ (if b = p then i else g.id b) = k
    by_cases ek : k = i
    · subst ek
      rw [if_pos rfl]
      constructor
      · intro q
        cases q
        exact ⟨l, hl, by rw [if_pos rfl]; simp, if_pos rfl⟩
      · rintro ⟨j, hj, hb, e⟩
        by_cases e2 : b = p
        · rw [e2]
        · rw [if_neg e2] at e
          have hbj : b ∈ g.L j := by
            by_cases ej : j = l
            · rw [if_pos ej, mem_l] at hb
              rw [ej]
              exact hb.resolve_left e2
            · rw [if_neg ej] at hb
              exact hb
          have h1 := h.held k
          rw [hi, (h.fs k b).2 ⟨j, hj, hbj, e⟩] at h1
          cases h1
    · rw [if_neg ek, h.fs]
      constructor
      · rintro ⟨j, hj, hb, e⟩
        refine ⟨j, hj, ?_, by rw [hid j hj b hb]; exact e⟩
        by_cases ej : j = l
        · rw [if_pos ej, mem_l, ← ej]
          exact Or.inr hb
        · rw [if_neg ej]
          exact hb
      · rintro ⟨j, hj, hb, e⟩
        by_cases e2 : b = p
        · rw [if_pos e2] at e
          exact absurd e.symm ek
        · rw [if_neg e2] at e
          refine ⟨j, hj, ?_, e⟩
          by_cases ej : j = l
          · rw [if_pos ej, mem_l] at hb
            rw [ej]
            exact hb.resolve_left e2
          · rw [if_neg ej] at hb
            exact hb
/-- One taken out. -/
def Gq.rem (g : Gq) (i : Int) (l : Nat) (l1 l2 : List Nat) : Gq :=
  ⟨g.e, upN g.nx (lastN (g.e l) l1) (headN l2 (g.e l)), upN g.pv (headN l2 (g.e l)) (lastN (g.e l) l1), g.id, fun j => if j = l then l1 ++ l2 else g.L j, g.own, fun k => if k = i then Option.none else g.f k⟩
theorem TellQ.rem (h : TellQ g s) {p : Nat} {l : Nat} {l1 l2 : List Nat} (hl : l < 32) (hL : g.L l = l1 ++ p :: l2)
    {s' : StU} (hs : s'.list = s.list.filter fun q => decide (¬ q.1 = g.id p)) :
    g.pv p = lastN (g.e l) l1 ∧ g.nx p = headN l2 (g.e l) ∧ TellQ (g.rem (g.id p) l l1 l2) s' := by
  have hw := h.way l hl
  have hn := h.nd l hl
  rw [hL] at hw hn
  have key := way_rem hw hn
  have hpL : p ∈ g.L l := by rw [hL]; simp
  have hx1 : ∀ j, j < 32 → ¬ j = l → ∀ b, b ∈ g.e j :: g.L j → ¬ b = lastN (g.e l) l1 ∧ ¬ b = headN l2 (g.e l) := by
    intro j hj hjl b hb
    have ob := h.ow j hj b hb
    refine ⟨?_, ?_⟩
    · rintro rfl
      have : lastN (g.e l) l1 ∈ g.e l :: g.L l := by
        rw [hL]
        rcases last_mem (g.e l) l1 with e | e
        · rw [e]; exact List.mem_cons_self
        · exact List.mem_cons_of_mem _ (List.mem_append_left _ e)
      exact hjl (ob.symm.trans (h.ow l hl _ this))
    · rintro rfl
      have : headN l2 (g.e l) ∈ g.e l :: g.L l := by
        rw [hL]
        rcases head_mem (g.e l) l2 with e | e
        · rw [e]; exact List.mem_cons_self
        · exact List.mem_cons_of_mem _ (List.mem_append_right _ (List.mem_cons_of_mem _ e))
      exact hjl (ob.symm.trans (h.ow l hl _ this))
  have hnp : ¬ p ∈ l1 ++ l2 := by
    have n2 := (List.nodup_cons.1 hn).2
    rw [List.nodup_append] at n2
    intro q
    rcases List.mem_append.1 q with q | q
    · exact n2.2.2 p q p List.mem_cons_self rfl
    · exact (List.nodup_cons.1 n2.2.1).1 q
  have sub : ∀ b, b ∈ l1 ++ l2 → b ∈ g.L l := fun b hb => by rw [hL]; simp at hb ⊢; rcases hb with q | q <;> simp [q]
  have hne : ∀ j, j < 32 → ∀ b, b ∈ g.L j → ¬ b = p → ¬ g.id b = g.id p := fun j hj b hb hbp e => hbp (h.inj hj hl hb hpL e)
  have hflt : ∀ j, j < 32 → ∀ m : List Nat, (∀ b, b ∈ m → b ∈ g.L j ∧ ¬ b = p) → ((m.map g.id).filter fun x => decide (¬ x = g.id p)) = m.map g.id := by
    intro j hj m hm
    refine List.filter_eq_self.2 fun x hx => ?_
    obtain ⟨b, hb, rfl⟩ := List.mem_map.1 hx
    have := hm b hb
    simpa using hne j hj b this.1 this.2
  refine ⟨key.1, key.2.1, ⟨?_, ?_, ?_, ?_, ?_, ?_⟩⟩
  · intro j hj
    by_cases e : j = l
    · subst e
      show Way _ _ _ (if j = j then _ else _) _
      rw [if_pos rfl]
      exact key.2.2
    · show Way _ _ _ (if j = l then _ else _) _
      rw [if_neg e]
      have hx := hx1 j hj e
      exact way_congr (fun z hz => upN_other (hx z (List.mem_cons.2 hz)).1) (fun z hz => upN_other (hx z (List.mem_cons.2 hz.symm)).2) (h.way j hj)
  · intro j hj
    by_cases e : j = l
    · subst e
      show (g.e j :: (if j = j then _ else _)).Nodup
      rw [if_pos rfl]
      refine List.Nodup.sublist ?_ hn
      exact List.Sublist.cons_cons _ (List.Sublist.append (List.Sublist.refl _) (List.sublist_cons_self _ _))
    · show (g.e j :: (if j = l then _ else _)).Nodup
      rw [if_neg e]
      exact h.nd j hj
  · intro j hj b hb
    by_cases e : j = l
    · subst e
      replace hb : b ∈ g.e j :: (if j = j then l1 ++ l2 else g.L j) := hb
      rw [if_pos rfl, List.mem_cons] at hb
      exact h.ow j hj b (by rcases hb with q | q; simp [q]; exact List.mem_cons_of_mem _ (sub b q))
    · replace hb : b ∈ g.e j :: (if j = l then l1 ++ l2 else g.L j) := hb
      rw [if_neg e] at hb
      exact h.ow j hj b hb
  · intro j hj
    show List.map g.id (if j = l then l1 ++ l2 else g.L j) = _
    rw [hs, lvl_drop, ← h.ids j hj]
    by_cases e : j = l
    · subst e
      rw [if_pos rfl, hL, List.map_append, List.map_append, List.filter_append, List.map_cons, List.filter_cons_of_neg (by simp),
        hflt j hj l1 (fun b hb => ⟨sub b (List.mem_append_left _ hb), fun q => hnp (q ▸ List.mem_append_left _ hb)⟩), hflt j hj l2 (fun b hb => ⟨sub b (List.mem_append_right _ hb), fun q => hnp (q ▸ List.mem_append_right _ hb)⟩)]
    · rw [if_neg e, hflt j hj (g.L j) (fun b hb => ⟨hb, fun q => e ?_⟩)]
      have h1 := h.ow j hj b (List.mem_cons_of_mem _ hb)
      have h2 := h.ow l hl p (List.mem_cons_of_mem _ hpL)
      rw [q] at h1
      exact h1.symm.trans h2
  · intro k b
    show (if k = g.id p then Option.none else g.f k) = some b ↔ ∃ j, j < 32 ∧ b ∈ (if j = l then l1 ++ l2 else g.L j) ∧ g.id b = k
    by_cases ek : k = g.id p
    · rw [if_pos ek]
      constructor
      · intro q; cases q
      · rintro ⟨j, hj, hb, e⟩
        exfalso
        by_cases ej : j = l
        · rw [if_pos ej] at hb
          exact hne l hl b (sub b hb) (fun q => hnp (q ▸ hb)) (e.trans ek)
        · rw [if_neg ej] at hb
          have hbp : b = p := h.inj hj hl hb hpL (e.trans ek)
          have h1 := h.ow j hj b (List.mem_cons_of_mem _ hb)
          have h2 := h.ow l hl p (List.mem_cons_of_mem _ hpL)
          rw [hbp] at h1
          exact ej (h1.symm.trans h2)
    · rw [if_neg ek, h.fs]
      constructor
      · rintro ⟨j, hj, hb, e⟩
        refine ⟨j, hj, ?_, e⟩
        by_cases ej : j = l
        · rw [if_pos ej]
          rw [ej, hL] at hb
          simp only [List.mem_append, List.mem_cons] at hb ⊢
          rcases hb with q | q | q
          · exact Or.inl q
          · rw [q] at e; exact absurd e.symm ek
          · exact Or.inr q
        · rw [if_neg ej]; exact hb
      · rintro ⟨j, hj, hb, e⟩
        refine ⟨j, hj, ?_, e⟩
        by_cases ej : j = l
        · rw [if_pos ej] at hb
          rw [ej]
          exact sub b hb
        · rw [if_neg ej] at hb; exact hb
  · refine ⟨?_, ?_, fun q hq => ?_⟩
    · rw [hs]; exact h.good.srt.filter _
    · rw [hs]; exact h.good.nod.filter _
    · rw [hs] at hq; exact h.good.rng q (List.mem_filter.1 hq).1
/-- From the top down: who is first. -/
theorem down_skip {l : List EnT} : ∀ {n m : Nat}, m ≤ n → (∀ j : Nat, m ≤ j → j < n → lvlU l (j : Int) = []) → downU l n = downU l m
  | 0, m, h, _ => by
    obtain rfl : m = 0 := by omega
    rfl
  | n + 1, m, h, hn => by
    by_cases e : m = n + 1
    · rw [e]
    · rw [downU, hn n (by omega) (by omega), List.nil_append]
      exact down_skip (by omega) fun j h1 h2 => hn j h1 (by omega)
theorem TellQ.first (h : TellQ g s) {m : Nat} (hm : m < 32) (hn : ∀ j, m < j → j < 32 → g.L j = []) {b : Nat} {r : List Nat} (hb : g.L m = b :: r) : ∃ t, leftU s = g.id b :: t := by
  have h1 := down_all h.good.srt h.good.rng
  rw [down_skip (m := m + 1) (by omega) (fun j h1 h2 => by rw [← h.ids j h2, hn j (by omega) h2]; rfl), downU, ← h.ids m hm, hb] at h1
  exact ⟨_, h1.symm⟩
/-- All, from the top down. -/
theorem TellQ.all (h : TellQ g s) : downU s.list 32 = leftU s := down_all h.good.srt h.good.rng
/-- There is somebody. -/
theorem TellQ.some_level (h : TellQ g s) (hs : ¬ s.list = []) : ∃ j, j < 32 ∧ ¬ g.L j = [] := by
  cases hl : s.list with
  | nil => exact absurd hl hs
  | cons q r =>
    have hr := h.good.rng q (by rw [hl]; exact List.mem_cons_self)
    obtain ⟨j, hj⟩ : ∃ j : Nat, q.2 = (j : Int) := ⟨q.2.toNat, by omega⟩
    have hj32 : j < 32 := by omega
    refine ⟨j, hj32, fun e => ?_⟩
    have h1 : q.1 ∈ lvlU s.list (j : Int) := lvl_mem.2 (by rw [← hj, hl]; exact List.mem_cons_self)
    rw [← h.ids j hj32, e] at h1
    cases h1
theorem take_filter {s : StU} (h : GoodU s) {i : Int} {t : List Int} (hs : leftU s = i :: t) : (takeU s).list = s.list.filter (fun q => decide (¬ q.1 = i)) ∧ (takeU s).taken = s.taken ++ [i] := by
  unfold leftU at hs
  cases hl : s.list with
  | nil => rw [hl] at hs; cases hs
  | cons q r =>
    rw [hl, List.map_cons] at hs
    simp only [List.cons.injEq] at hs
    have hn := h.nod
    rw [hl, List.pairwise_cons] at hn
    refine ⟨?_, ?_⟩
    · show s.list.tail = _
      rw [hl, List.filter_cons_of_neg (by simp [hs.1])]
      exact (List.filter_eq_self.2 fun b hb => by have := hn.1 b hb; rw [hs.1] at this; simpa using fun q => this q.symm).symm
    · show s.taken ++ (s.list.head?.map (·.1)).toList = _
      rw [hl]
      simp [hs.1]
end
end Go.Proofs.Ytgnpodeneknpdaa
