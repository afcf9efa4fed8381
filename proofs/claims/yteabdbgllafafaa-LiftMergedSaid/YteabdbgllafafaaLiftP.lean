/- Package lift, in plain terms: ways, the nearer end first; spans that are apart. No program in sight. -/
namespace Go.Proofs.Yteabdbgllafafaa

def dstS (a b : Int) : Int := if a < b then b - a else a - b
def wayS (h : Int) : List Int → Int
  | [] => 0
  | b :: r => dstS h b + wayS b r
theorem dst_tri (a b c : Int) : dstS a c ≤ dstS a b + dstS b c := by
  unfold dstS
  split <;> split <;> split <;> omega
theorem dst_pos (a b : Int) : 0 ≤ dstS a b := by
  unfold dstS
  split <;> omega
theorem dst_sym (a b : Int) : dstS a b = dstS b a := by
  unfold dstS
  split <;> split <;> omega
theorem way_pos : ∀ (l : List Int) (h : Int), 0 ≤ wayS h l
  | [], _ => Int.le_refl _
  | b :: r, h => by
    have h1 := dst_pos h b
    have h2 := way_pos r b
    simp only [wayS]
    omega
theorem way_one {x : Int} : ∀ {l : List Int} {h : Int}, x ∈ l → dstS h x ≤ wayS h l
  | [], _, hx => by cases hx
  | b :: r, h, hx => by
    simp only [wayS]
    rcases List.mem_cons.1 hx with rfl | hx
    · have := way_pos r x
      omega
    · have h1 := way_one (h := b) hx
      have h2 := dst_tri h b x
      omega
theorem way_two {x y : Int} : ∀ {l : List Int} {h : Int}, x ∈ l → y ∈ l → min (dstS h x) (dstS h y) + dstS x y ≤ wayS h l
  | [], _, hx, _ => by cases hx
  | b :: r, h, hx, hy => by
    simp only [wayS]
    by_cases ex : x = b
    · subst ex
      by_cases ey : y = x
      · subst ey
        have := way_pos r y
        have h0 : dstS y y = 0 := by unfold dstS; split <;> omega
        omega
      · have hy' : y ∈ r := (List.mem_cons.1 hy).resolve_left ey
        have := way_one (h := x) hy'
        omega
    · have hx' : x ∈ r := (List.mem_cons.1 hx).resolve_left ex
      by_cases ey : y = b
      · subst ey
        have := way_one (h := y) hx'
        have h2 := dst_sym x y
        omega
      · have hy' : y ∈ r := (List.mem_cons.1 hy).resolve_left ey
        have h1 := way_two (h := b) hx' hy'
        have h2 := dst_tri h b x
        have h3 := dst_tri h b y
        omega
/-- The last one, or where the head stands. -/
def endS (h : Int) : List Int → Int
  | [] => h
  | b :: r => endS b r
theorem way_append : ∀ (a b : List Int) (h : Int), wayS h (a ++ b) = wayS h a + wayS (endS h a) b
  | [], b, h => by simp [wayS, endS]
  | x :: a, b, h => by
    simp only [List.cons_append, wayS, endS]
    rw [way_append a b x]
    omega
theorem end_mem : ∀ {l : List Int} {h : Int}, ¬ l = [] → endS h l ∈ l
  | [], _, hn => absurd rfl hn
  | [b], h, _ => by simp [endS]
  | b :: c :: r, h, _ => by
    simp only [endS]
    have := end_mem (l := c :: r) (h := b) (by simp)
    simp only [endS] at this
    exact List.mem_cons_of_mem _ this
theorem up_way : ∀ {u : List Int} {h : Int}, (u.Pairwise fun a b => a ≤ b) → (∀ x ∈ u, h ≤ x) → wayS h u = endS h u - h ∧ h ≤ endS h u ∧ ∀ x ∈ u, x ≤ endS h u
  | [], h, _, _ => ⟨by simp [wayS, endS], by simp [endS], fun x hx => by cases hx⟩
  | b :: r, h, hs, hb => by
    rw [List.pairwise_cons] at hs
    have h0 := hb b List.mem_cons_self
    obtain ⟨h1, h2, h3⟩ := up_way (h := b) hs.2 hs.1
    simp only [wayS, endS]
    have hd : dstS h b = b - h := by unfold dstS; split <;> omega
    refine ⟨by omega, by omega, fun x hx => ?_⟩
    rcases List.mem_cons.1 hx with rfl | hx
    · exact h2
    · exact h3 x hx
theorem down_way : ∀ {u : List Int} {h : Int}, (u.Pairwise fun a b => b ≤ a) → (∀ x ∈ u, x ≤ h) → wayS h u = h - endS h u ∧ endS h u ≤ h ∧ ∀ x ∈ u, endS h u ≤ x
  | [], h, _, _ => ⟨by simp [wayS, endS], by simp [endS], fun x hx => by cases hx⟩
  | b :: r, h, hs, hb => by
    rw [List.pairwise_cons] at hs
    have h0 := hb b List.mem_cons_self
    obtain ⟨h1, h2, h3⟩ := down_way (h := b) hs.2 hs.1
    simp only [wayS, endS]
    have hd : dstS h b = h - b := by unfold dstS; split <;> omega
    refine ⟨by omega, by omega, fun x hx => ?_⟩
    rcases List.mem_cons.1 hx with rfl | hx
    · exact h2
    · exact h3 x hx
/-- What is not below the head, rising; what is below, falling. -/
structure PartsS (h : Int) (u d : List Int) : Prop where
  us : u.Pairwise fun a b => a ≤ b
  ds : d.Pairwise fun a b => b ≤ a
  ub : ∀ x ∈ u, h ≤ x
  db : ∀ x ∈ d, x < h
theorem updown {h : Int} {u d : List Int} (p : PartsS h u d) : wayS h (u ++ d) = (endS h u - h) + if d = [] then 0 else endS h u - endS h d := by
  rw [way_append]
  obtain ⟨h1, h2, _⟩ := up_way p.us p.ub
  rw [h1]
  cases d with
  | nil => simp [wayS]
  | cons b r =>
    have hb : ∀ x ∈ b :: r, x ≤ endS h u := fun x hx => by have := p.db x hx; omega
    obtain ⟨h3, _, _⟩ := down_way (h := endS h u) p.ds hb
    rw [h3, if_neg (by simp)]
    rfl
theorem downup {h : Int} {u d : List Int} (p : PartsS h u d) : wayS h (d ++ u) = (h - endS h d) + if u = [] then 0 else endS h u - endS h d := by
  rw [way_append]
  obtain ⟨h1, h2, _⟩ := down_way p.ds (h := h) fun x hx => by have := p.db x hx; omega
  rw [h1]
  cases u with
  | nil => simp [wayS]
  | cons b r =>
    have hb : ∀ x ∈ b :: r, endS h d ≤ x := fun x hx => by have := p.ub x hx; omega
    obtain ⟨h3, _, _⟩ := up_way (h := endS h d) p.us hb
    rw [h3, if_neg (by simp)]
    rfl
/-- The nearer end first: mx, mn: the greatest and the least. -/
def shortS (h mx mn : Int) (u d : List Int) : List Int := if mx - h > h - mn then d ++ u else u ++ d
structure EndsS (mx mn : Int) (u d : List Int) : Prop where
  mxm : mx ∈ u ++ d
  mnm : mn ∈ u ++ d
  mxb : ∀ x ∈ u ++ d, x ≤ mx
  mnb : ∀ x ∈ u ++ d, mn ≤ x
theorem end_up {h mx mn : Int} {u d : List Int} (p : PartsS h u d) (e : EndsS mx mn u d) (hu : ¬ u = []) : endS h u = mx := by
  have hm := end_mem (h := h) hu
  obtain ⟨_, h2, h3⟩ := up_way p.us p.ub
  have h4 := e.mxb _ (List.mem_append_left _ hm)
  rcases List.mem_append.1 e.mxm with q | q
  · have := h3 mx q; omega
  · have := p.db mx q; omega
theorem end_down {h mx mn : Int} {u d : List Int} (p : PartsS h u d) (e : EndsS mx mn u d) (hd : ¬ d = []) : endS h d = mn := by
  have hm := end_mem (h := h) hd
  obtain ⟨_, h2, h3⟩ := down_way p.ds (h := h) fun x hx => by have := p.db x hx; omega
  have h4 := e.mnb _ (List.mem_append_right _ hm)
  have h5 := p.db _ hm
  rcases List.mem_append.1 e.mnm with q | q
  · have := p.ub mn q; omega
  · have := h3 mn q; omega
/-- How long it is. -/
theorem short_way {h mx mn : Int} {u d : List Int} (p : PartsS h u d) (e : EndsS mx mn u d) :
    wayS h (shortS h mx mn u d) = if d = [] then mx - h else if u = [] then h - mn else min (mx - h) (h - mn) + (mx - mn) := by
  unfold shortS
  by_cases hd : d = []
  · rw [if_pos hd]
    subst hd
    have hu : ¬ u = [] := fun q => by have := e.mxm; rw [q] at this; cases this
    have h1 := end_up p e hu
    have h2 : wayS h u = mx - h := by rw [← h1]; exact (up_way p.us p.ub).1
    rw [List.append_nil, List.nil_append]
    split <;> exact h2
  · rw [if_neg hd]
    have h1 := end_down p e hd
    by_cases hu : u = []
    · rw [if_pos hu]
      subst hu
      have h2 : wayS h d = h - mn := by
        rw [← h1]
        exact (down_way p.ds (h := h) fun x hx => by have := p.db x hx; omega).1
      rw [List.append_nil, List.nil_append]
      split <;> exact h2
    · rw [if_neg hu]
      have h2 := end_up p e hu
      split
      · rw [downup p, if_neg hu, h1, h2]
        omega
      · rw [updown p, if_neg hd, h1, h2]
        omega
/-- LiftBest: no way through all of them is shorter. -/
theorem short_best {h mx mn : Int} {u d o : List Int} (p : PartsS h u d) (e : EndsS mx mn u d) (ho : ∀ x ∈ u ++ d, x ∈ o) : wayS h (shortS h mx mn u d) ≤ wayS h o := by
  rw [short_way p e]
  have hx := ho _ e.mxm
  have hy := ho _ e.mnm
  have h1 := way_one (h := h) hx
  have h2 := way_one (h := h) hy
  have h3 := way_two (h := h) hx hy
  have h4 : mn ≤ mx := e.mnb _ e.mxm
  have h5 : dstS mx mn = mx - mn := by unfold dstS; split <;> omega
  have hup : h ≤ mx → dstS h mx = mx - h := fun q => by unfold dstS; split <;> omega
  have hdn : mn ≤ h → dstS h mn = h - mn := fun q => by unfold dstS; split <;> omega
  by_cases hd : d = []
  · rw [if_pos hd]
    subst hd
    have : h ≤ mx := p.ub mx (by have := e.mxm; rw [List.append_nil] at this; exact this)
    have := hup this
    omega
  · rw [if_neg hd]
    have hmd : mn ≤ h := by
      have h6 := end_mem (h := h) hd
      have h7 := p.db _ h6
      have h8 := e.mnb _ (List.mem_append_right _ h6)
      omega
    have h9 := hdn hmd
    by_cases hu : u = []
    · rw [if_pos hu]
      omega
    · rw [if_neg hu]
      have hmu : h ≤ mx := by
        have h6 := end_mem (h := h) hu
        have h7 := p.ub _ h6
        have h8 := e.mxb _ (List.mem_append_left _ h6)
        omega
      have h10 := hup hmu
      omega
/-- LiftEnds. -/
theorem short_ends {h mx mn : Int} {u d : List Int} (p : PartsS h u d) (e : EndsS mx mn u d) (h1 : mn ≤ h) (h2 : h ≤ mx) : wayS h (shortS h mx mn u d) = (h - mn) + (mx - h) + min (h - mn) (mx - h) := by
  rw [short_way p e]
  by_cases hd : d = []
  · rw [if_pos hd]
    subst hd
    have : h ≤ mn := p.ub mn (by have := e.mnm; rw [List.append_nil] at this; exact this)
    omega
  · rw [if_neg hd]
    by_cases hu : u = []
    · rw [if_pos hu]
      subst hu
      have : mx < h := p.db mx (by have := e.mxm; rw [List.nil_append] at this; exact this)
      omega
    · rw [if_neg hu]
      omega
/-- Spans: each has a block, and none meets the next. -/
abbrev SpS := Int × Int
structure ApartS (l : List SpS) : Prop where
  some : ∀ s ∈ l, s.1 < s.2
  apart : l.Pairwise fun a b => a.2 < b.1
def covS (l : List SpS) (x : Int) : Prop := ∃ s ∈ l, s.1 ≤ x ∧ x < s.2
theorem ApartS.tail {a : SpS} {l : List SpS} (h : ApartS (a :: l)) : ApartS l := ⟨fun s hs => h.some s (List.mem_cons_of_mem _ hs), (List.pairwise_cons.1 h.apart).2⟩
theorem ApartS.later {a : SpS} {l : List SpS} (h : ApartS (a :: l)) {x : Int} (hx : covS l x) : a.2 < x := by
  obtain ⟨s, hs, h1, _⟩ := hx
  have := (List.pairwise_cons.1 h.apart).1 s hs
  omega
theorem cov_cons {a : SpS} {l : List SpS} {x : Int} : covS (a :: l) x ↔ (a.1 ≤ x ∧ x < a.2) ∨ covS l x := by
  constructor
  · rintro ⟨s, hs, h⟩
    rcases List.mem_cons.1 hs with rfl | hs
    · exact Or.inl h
    · exact Or.inr ⟨s, hs, h⟩
  · rintro (h | ⟨s, hs, h⟩)
    · exact ⟨a, List.mem_cons_self, h⟩
    · exact ⟨s, List.mem_cons_of_mem _ hs, h⟩
/-- Apart, and of the same blocks: the same. -/
theorem apart_ext : ∀ {l m : List SpS}, ApartS l → ApartS m → (∀ x, covS l x ↔ covS m x) → l = m
  | [], [], _, _, _ => rfl
  | [], b :: m, _, h2, h => by
    have hb := h2.some b List.mem_cons_self
    obtain ⟨s, hs, _⟩ := (h b.1).2 (cov_cons.2 (Or.inl ⟨Int.le_refl _, hb⟩))
    cases hs
  | a :: l, [], h1, _, h => by
    have ha := h1.some a List.mem_cons_self
    obtain ⟨s, hs, _⟩ := (h a.1).1 (cov_cons.2 (Or.inl ⟨Int.le_refl _, ha⟩))
    cases hs
  | a :: l, b :: m, h1, h2, h => by
    have ha := h1.some a List.mem_cons_self
    have hb := h2.some b List.mem_cons_self
    have low : ∀ {c d : SpS} {p q : List SpS}, ApartS (d :: q) → d.1 < d.2 → (∀ x, covS (c :: p) x → covS (d :: q) x) → c.1 < c.2 → d.1 ≤ c.1 := fun {c d p q} hq hd hh hc => by
      rcases cov_cons.1 (hh c.1 (cov_cons.2 (Or.inl ⟨Int.le_refl _, hc⟩))) with g | g
      · exact g.1
      · have := hq.later g; omega
    have e1 : a.1 = b.1 := by
      have := low h2 hb (fun x => (h x).1) ha
      have := low h1 ha (fun x => (h x).2) hb
      omega
    have top : ∀ {c d : SpS} {p q : List SpS}, ApartS (c :: p) → c.1 < c.2 → c.1 = d.1 → (∀ x, covS (d :: q) x → covS (c :: p) x) → ¬ c.2 < d.2 := fun {c d p q} hc h0 he hh hlt => by
      rcases cov_cons.1 (hh c.2 (cov_cons.2 (Or.inl ⟨by omega, hlt⟩))) with g | g
      · omega
      · have := hc.later g; omega
    have e2 : a.2 = b.2 := by
      have := top h1 ha e1 (fun x => (h x).2)
      have := top h2 hb e1.symm (fun x => (h x).1)
      omega
    have e : a = b := Prod.ext e1 e2
    subst e
    rw [apart_ext h1.tail h2.tail fun x => ?_]
    constructor
    · intro hx
      have h3 := h1.later hx
      rcases cov_cons.1 ((h x).1 (cov_cons.2 (Or.inr hx))) with g | g
      · omega
      · exact g
    · intro hx
      have h3 := h2.later hx
      rcases cov_cons.1 ((h x).2 (cov_cons.2 (Or.inr hx))) with g | g
      · omega
      · exact g
/-- No more than any that hold the same blocks. -/
theorem len_sub {α : Type} [DecidableEq α] : ∀ {a b : List α}, (a.Pairwise fun x y => ¬ x = y) → (∀ x ∈ a, x ∈ b) → a.length ≤ b.length
  | [], _, _, _ => Nat.zero_le _
  | x :: a, b, h1, h => by
    rw [List.pairwise_cons] at h1
    have hx : x ∈ b := h x List.mem_cons_self
    have h2 : a.length ≤ (b.erase x).length := len_sub h1.2 fun y hy => (List.mem_erase_of_ne (fun e => h1.1 y hy e.symm)).2 (h y (List.mem_cons_of_mem _ hy))
    have h3 := List.length_erase_of_mem hx
    have h4 := List.length_pos_of_mem hx
    rw [List.length_cons]
    omega
theorem apart_least {l m : List SpS} (hm : ApartS m) (h : ∀ x, covS l x ↔ covS m x) : m.length ≤ l.length := by
  have h1 : (m.map (·.1)).Pairwise fun x y => ¬ x = y := by
    rw [List.pairwise_map]
    refine hm.apart.imp_of_mem ?_
    intro a b ha _ hab
    have := hm.some a ha
    omega
  have h2 : ∀ x ∈ m.map (·.1), x ∈ l.map (·.1) := fun x hx => by
    obtain ⟨s, hs, rfl⟩ := List.mem_map.1 hx
    obtain ⟨p, hp, h3, h4⟩ := (h s.1).2 ⟨s, hs, Int.le_refl _, hm.some s hs⟩
    have e : p.1 = s.1 := by
      by_cases hlt : p.1 < s.1
      · exfalso
        obtain ⟨r, hr, h5, h6⟩ := (h (s.1 - 1)).1 ⟨p, hp, by omega, by omega⟩
        by_cases ers : r = s
        · subst ers; omega
        · obtain ⟨i, hi, ei⟩ := List.getElem_of_mem hr
          obtain ⟨j, hj, ej⟩ := List.getElem_of_mem hs
          have hij : ¬ i = j := fun e => ers (by rw [← ei, ← ej]; simp [e])
          by_cases hlt2 : i < j
          · have := List.pairwise_iff_getElem.1 hm.apart i j hi hj hlt2
            rw [ei, ej] at this
            omega
          · have := List.pairwise_iff_getElem.1 hm.apart j i hj hi (by omega)
            rw [ei, ej] at this
            have := hm.some s hs
            omega
      · omega
    exact List.mem_map.2 ⟨p, hp, e⟩
  have := len_sub h1 h2
  rw [List.length_map, List.length_map] at this
  exact this
end Go.Proofs.Yteabdbgllafafaa
