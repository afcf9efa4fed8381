/- Package ring, in plain terms: one step by cells and indices against the two queues; the laws RingOrder, RingRoom, RingOwn. No program in sight. -/
import Derived.Test.YtipkmmajhhcadaaRingQ
namespace Go.Proofs.Ytipkmmajhhcadaa

/-- A right ring: cells, indices. -/
structure RiR where
  cs : List CeR
  give : Nat
  take : Nat
  work : Nat
def RiR.Tells (n : Nat) (r : RiR) (s : StG) : Prop := RgR n r.cs r.give r.take r.work s.wk s.gv
/-- The error at a right ring. -/
def errS (n : Nat) (r : RiR) (o : RoT) : Int :=
  if o.k < 1 ∨ 3 < o.k then 5
  else if o.k = 1 then if dsR n r.take r.give + 1 = n then 7 else 0
  else if o.k = 2 then if r.work = r.give then 3 else 0
  else if r.take = r.work then 3 else 0
def doS (n : Nat) (r : RiR) (o : RoT) : RiR :=
  if o.k = 1 then ⟨r.cs.set r.give (true, o.d), wrR n (r.give + 1), r.take, r.work⟩
  else if o.k = 2 then ⟨r.cs.set r.work (false, invR (r.cs[r.work]?.getD (false, 0)).2), r.give, r.take, wrR n (r.work + 1)⟩
  else ⟨r.cs.set r.take (false, 0), r.give, wrR n (r.take + 1), r.work⟩
def gotS (r : RiR) (o : RoT) : Int := if o.k = 3 then (r.cs[r.take]?.getD (false, 0)).2 else 0
def gotG (s : StG) (o : RoT) : Int := if o.k = 3 then s.wk.head?.getD 0 else 0
theorem err_tie {n : Nat} {r : RiR} {s : StG} (h : r.Tells n s) (o : RoT) : errS n r o = errG n s o := by
  unfold errS errG
  have e1 : (dsR n r.take r.give + 1 = n) = (s.wk.length + s.gv.length + 1 = n) := propext (full_iff h)
  have e2 : (r.work = r.give) = (s.gv = []) := propext (none_work h)
  have e3 : (r.take = r.work) = (s.wk = []) := propext (none_take h)
  simp only [e1, e2, e3]
theorem do_tie {n : Nat} {r : RiR} {s : StG} (h : r.Tells n s) (o : RoT) (he : errG n s o = 0) : (doS n r o).Tells n (doG s o) ∧ gotS r o = gotG s o := by
  unfold RiR.Tells at h ⊢
  unfold errG at he
  unfold doS doG gotS gotG
  by_cases k0 : o.k < 1 ∨ 3 < o.k
  · rw [if_pos k0] at he; cases he
  · rw [if_neg k0] at he
    by_cases k1 : o.k = 1
    · rw [if_pos k1] at he ⊢
      have hr := h.room
      have : ¬ s.wk.length + s.gv.length + 1 = n := fun q => by rw [if_pos q] at he; cases he
      rw [if_pos k1, if_neg (by omega), if_neg (by omega)]
      exact ⟨ring_give h (by omega) o.d, rfl⟩
    · rw [if_neg k1] at he ⊢
      by_cases k2 : o.k = 2
      · rw [if_pos k2] at he ⊢
        rw [if_neg k1, if_pos k2, if_neg (by omega), if_neg (by omega)]
        cases hg : s.gv with
        | nil => rw [if_pos hg] at he; cases he
        | cons d q =>
          rw [hg] at h
          refine ⟨?_, rfl⟩
          rw [ring_at_work h]
          exact ring_work (x := invR d) h
      · rw [if_neg k2] at he ⊢
        rw [if_neg k1, if_neg k2, if_pos (by omega), if_pos (by omega)]
        cases hg : s.wk with
        | nil => rw [if_pos hg] at he; cases he
        | cons d q =>
          rw [hg] at h
          refine ⟨ring_take h, ?_⟩
          rw [ring_at_take h]
          rfl
/-- What lies at Give where there is room. -/
theorem ring_at_give {n give take work : Nat} {cs : List CeR} {wk gv : List Int} (h : RgR n cs give take work wk gv) : cs[give]? = some (false, 0) := by
  have hr := h.room
  have hc := h.cell (wk.length + gv.length) (by omega)
  rw [seq_at n _ _ (by omega), if_neg (by omega), if_neg (by omega)] at hc
  rw [h.gi, Nat.add_assoc, hc]
/-- RingOwn: one cell at most is another one, and it was the one's and is the other's. -/
theorem own_tie {n : Nat} {r : RiR} {s : StG} (h : r.Tells n s) (o : RoT) (he : errG n s o = 0) : ∃ i a b, (doS n r o).cs = r.cs.set i b ∧ r.cs[i]? = some a ∧ (a.1 = true ↔ o.k = 2) ∧ (b.1 = true ↔ o.k = 1) := by
  unfold RiR.Tells at h
  unfold errG at he
  unfold doS
  by_cases k0 : o.k < 1 ∨ 3 < o.k
  · rw [if_pos k0] at he; cases he
  · rw [if_neg k0] at he
    by_cases k1 : o.k = 1
    · rw [if_pos k1]
      exact ⟨r.give, _, _, rfl, ring_at_give h, ⟨(fun q => by cases q), (fun q => by omega)⟩, ⟨fun _ => k1, fun _ => rfl⟩⟩
    · rw [if_neg k1] at he ⊢
      by_cases k2 : o.k = 2
      · rw [if_pos k2] at he ⊢
        cases hg : s.gv with
        | nil => rw [if_pos hg] at he; cases he
        | cons d q =>
          rw [hg] at h
          exact ⟨r.work, _, _, rfl, ring_at_work h, ⟨fun _ => k2, fun _ => rfl⟩, ⟨(fun q => by cases q), fun q => absurd q k1⟩⟩
      · rw [if_neg k2] at he ⊢
        cases hg : s.wk with
        | nil => rw [if_pos hg] at he; cases he
        | cons d q =>
          rw [hg] at h
          exact ⟨r.take, _, _, rfl, ring_at_take h, ⟨(fun q => by cases q), fun q => absurd q k2⟩, ⟨(fun q => by cases q), fun q => absurd q k1⟩⟩
/-- RingOrder: one round of 'work, take' where something is there. -/
def roundG : List RoT := [⟨2, 0⟩, ⟨3, 0⟩]
theorem round_less {n : Nat} (s : StG) (h : 0 < s.wk.length + s.gv.length) : (runG n s roundG).wk.length + (runG n s roundG).gv.length + 1 = s.wk.length + s.gv.length := by
  obtain ⟨wk, gv, tk, g⟩ := s
  cases gv with
  | nil =>
    cases wk with
    | nil => simp at h
    | cons d r => simp [roundG, runG, stepG, errG, doG]
  | cons d r =>
    cases wk with
    | nil => simp [roundG, runG, stepG, errG, doG]
    | cons e q => simp [roundG, runG, stepG, errG, doG]; omega
theorem round_none {n : Nat} (s : StG) (h : s.wk.length + s.gv.length = 0) : runG n s roundG = s := by
  obtain ⟨wk, gv, tk, g⟩ := s
  have h1 : wk = [] := List.eq_nil_of_length_eq_zero (by simp only at h; omega)
  have h2 : gv = [] := List.eq_nil_of_length_eq_zero (by simp only at h; omega)
  subst h1 h2
  simp [roundG, runG, stepG, errG]
theorem runG_append (n : Nat) : ∀ (a b : List RoT) (s : StG), runG n s (a ++ b) = runG n (runG n s a) b
  | [], _, _ => rfl
  | _ :: r, b, s => by rw [List.cons_append, runG, runG_append n r b, runG]
/-- So many rounds empty the ring. -/
def drainG (m : Nat) : List RoT := (List.replicate m roundG).flatten
theorem drain_all {n : Nat} : ∀ (m : Nat) (s : StG), s.wk.length + s.gv.length ≤ m → (runG n s (drainG m)).wk = [] ∧ (runG n s (drainG m)).gv = []
  | 0, s, h => ⟨List.eq_nil_of_length_eq_zero (by show s.wk.length = 0; omega), List.eq_nil_of_length_eq_zero (by show s.gv.length = 0; omega)⟩
  | m + 1, s, h => by
    have e : drainG (m + 1) = roundG ++ drainG m := by simp [drainG, List.replicate_succ]
    rw [e, runG_append]
    by_cases h0 : 0 < s.wk.length + s.gv.length
    · exact drain_all m _ (by have := round_less (n := n) s h0; omega)
    · rw [round_none s (by omega)]
      exact drain_all m s (by omega)
theorem given_none (n : Nat) : ∀ (ops : List RoT) (s : StG), (∀ o ∈ ops, ¬ o.k = 1) → givenG n s ops = []
  | [], _, _ => rfl
  | o :: r, s, h => by
    rw [givenG, if_neg (fun q => h o List.mem_cons_self q.2), List.nil_append, given_none n r _ fun x hx => h x (List.mem_cons_of_mem _ hx)]
/-- RingOrder: at the end everything given, inverted, has been taken, in its order. -/
theorem order_all {n : Nat} (ops : List RoT) (m : Nat) (hm : (runG n newG ops).wk.length + (runG n newG ops).gv.length ≤ m) : (runG n (runG n newG ops) (drainG m)).taken = givenG n newG ops := by
  have h1 := all_runG n (drainG m) (runG n newG ops)
  have h2 := all_runG n ops newG
  rw [given_none n (drainG m) _ (fun o ho => by
    obtain ⟨l, hl, hx⟩ := List.mem_flatten.1 ho
    rw [(List.mem_replicate.1 hl).2] at hx
    simp only [roundG, List.mem_cons, List.not_mem_nil, or_false] at hx
    rcases hx with rfl | rfl <;> decide), List.append_nil, h2] at h1
  obtain ⟨h3, h4⟩ := drain_all (n := n) m _ hm
  have e0 : allG newG = [] := rfl
  rw [e0, List.nil_append] at h1
  rw [← h1]
  unfold allG
  rw [h3, h4]
  simp
/-- RingRoom: so many are given, then none, till one is taken. -/
theorem errsG_append (n : Nat) : ∀ (a b : List RoT) (s : StG), errsG n s (a ++ b) = errsG n s a ++ errsG n (runG n s a) b
  | [], _, _ => rfl
  | o :: r, b, s => by rw [List.cons_append, errsG, errsG_append n r b, runG, errsG, List.cons_append]
theorem gives_run (n : Nat) (d : Int) (wk tk : List Int) : ∀ (k : Nat) (gv : List Int) (g : Nat), wk.length + gv.length + k < n → runG n ⟨wk, gv, tk, g⟩ (List.replicate k ⟨1, d⟩) = ⟨wk, gv ++ List.replicate k d, tk, g + k⟩ ∧ errsG n ⟨wk, gv, tk, g⟩ (List.replicate k ⟨1, d⟩) = List.replicate k 0
  | 0, gv, g, _ => by simp [runG, errsG]
  | k + 1, gv, g, h => by
    have e1 : ¬ wk.length + gv.length + 1 = n := by omega
    have he : errG n ⟨wk, gv, tk, g⟩ ⟨1, d⟩ = 0 := by
      unfold errG
      rw [if_neg (by simp), if_pos rfl, if_neg (by simpa using e1)]
    have hs : stepG n ⟨wk, gv, tk, g⟩ ⟨1, d⟩ = ⟨wk, gv ++ [d], tk, g + 1⟩ := by
      unfold stepG
      rw [if_pos he]
      rfl
    obtain ⟨h1, h2⟩ := gives_run n d wk tk k (gv ++ [d]) (g + 1) (by rw [List.length_append, List.length_cons, List.length_nil]; omega)
    rw [List.replicate_succ, runG, errsG, hs, he, h1, h2, List.replicate_succ, List.replicate_succ, List.append_assoc]
    exact ⟨by rw [Nat.add_assoc, Nat.add_comm 1 k]; rfl, rfl⟩
theorem room_all {n : Nat} (hn : 2 ≤ n) (d : Int) : errsG n newG (List.replicate n ⟨1, d⟩ ++ [⟨2, 0⟩, ⟨1, 0⟩, ⟨3, 0⟩, ⟨1, 0⟩]) = List.replicate (n - 1) 0 ++ [7, 0, 7, 0, 0] := by
  obtain ⟨m, rfl⟩ : ∃ m, n = m + 2 := ⟨n - 2, by omega⟩
  obtain ⟨h1, h2⟩ := gives_run (m + 2) d [] [] (m + 1) [] 0 (by simp)
  have e : List.replicate (m + 2) (⟨1, d⟩ : RoT) = List.replicate (m + 1) ⟨1, d⟩ ++ [⟨1, d⟩] := List.replicate_succ'
  rw [e, List.append_assoc, errsG_append]
  unfold newG
  rw [h1, h2, List.nil_append]
  have e2 : List.replicate (m + 1) d = d :: List.replicate m d := List.replicate_succ
  have e3 : m + 2 - 1 = m + 1 := by omega
  rw [e2, e3]
  congr 1
  simp [errsG, errG, stepG, doG, Nat.add_comm 1 m]
end Go.Proofs.Ytipkmmajhhcadaa
