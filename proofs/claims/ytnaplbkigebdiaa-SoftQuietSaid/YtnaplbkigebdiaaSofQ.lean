/- Plain facts on soft: what is valid, which raises are come to behind n runs, when the rounds end. No program in sight. -/
import Derived.Test.YtnaplbkigebdiaaSoftP
namespace Go.Proofs.Ytnaplbkigebdiaa

/-- A function with one value turned. -/
def upS (f : Nat → Bool) (i : Nat) (v : Bool) : Nat → Bool := fun j => if j = i then v else f j
/-- The raise before the j-th. -/
def prevAt : Int → List RaT → Nat → Int
  | p, _, 0 => p
  | p, [], _ + 1 => p
  | _, r :: rs, j + 1 => prevAt r.at_ rs j
def RaOk (p : Int) (r : RaT) : Prop := (0 ≤ r.soft ∧ r.soft ≤ 7) ∧ p ≤ r.at_ ∧ r.at_ ≤ 400
def RaUp (p : Int) (rs : List RaT) : Prop := ∀ j r, rs[j]? = some r → RaOk (prevAt p rs j) r
theorem prev_succ : ∀ (p : Int) (rs : List RaT) (j : Nat) (r : RaT), rs[j]? = some r → prevAt p rs (j + 1) = r.at_
  | p, [], j, r, h => by simp at h
  | p, a :: rs, 0, r, h => by
    simp at h; subst h
    show prevAt a.at_ rs 0 = _
    cases rs <;> rfl
  | p, a :: rs, j + 1, r, h => by
    show prevAt a.at_ rs (j + 1) = _
    exact prev_succ a.at_ rs j r (by simpa using h)
theorem prev_zero (p : Int) (rs : List RaT) : prevAt p rs 0 = p := by cases rs <;> rfl
/-- All numbers named are numbers of software interrupts. -/
def In7 (l : List Int) : Prop := ∀ x ∈ l, 0 ≤ x ∧ x ≤ 7
def RtJ (pend : List Int) (rs : List RaT) : Prop := In7 pend ∧ rs.length ≤ 400 ∧ RaUp 0 rs
/-- Raises rise. -/
theorem ra_mono {p : Int} {rs : List RaT} (h : RaUp p rs) : ∀ (d i : Nat) (a b : RaT), rs[i]? = some a → rs[i + d]? = some b → a.at_ ≤ b.at_
  | 0, i, a, b, ha, hb => by rw [Nat.add_zero, ha] at hb; cases hb; exact Int.le_refl _
  | d + 1, i, a, b, ha, hb => by
    have hlt : i + d < rs.length := by have := (List.getElem?_eq_some_iff.1 hb).1; omega
    have hc : rs[i + d]? = some rs[i + d] := List.getElem?_eq_getElem hlt
    have h1 := ra_mono h d i a _ ha hc
    have h2 := (h (i + d + 1) b hb).2.1
    rw [prev_succ p rs (i + d) _ hc] at h2
    omega
/-- The first d raises are those of up to n runs. -/
structure CutJ (rs : List RaT) (n : Int) (d : Nat) : Prop where
  le : d ≤ rs.length
  lo : ∀ j r, j < d → rs[j]? = some r → r.at_ ≤ n
  hi : ∀ j r, d ≤ j → rs[j]? = some r → n < r.at_
/-- On the way. -/
structure MidJ (rs : List RaT) (n : Nat) (f : Nat → Bool) (d : Nat) (g : Nat → Bool) : Prop where
  le : d ≤ rs.length
  lo : ∀ j r, j < d → rs[j]? = some r → r.at_ ≤ n
  hi : ∀ j r, d ≤ j → rs[j]? = some r → (n : Int) - 1 < r.at_
  g : ∀ s, g s = (f s || rJ (rs.take d) n s)
theorem rJ_iff (rs : List RaT) (n s : Nat) : rJ rs n s = true ↔ ∃ (j : Nat) (r : RaT), rs[j]? = some r ∧ r.at_ = n ∧ r.soft = s := by
  unfold rJ
  rw [List.any_eq_true]
  constructor
  · rintro ⟨r, hr, h⟩
    obtain ⟨j, hj⟩ := List.mem_iff_getElem?.1 hr
    exact ⟨j, r, hj, of_decide_eq_true h⟩
  · rintro ⟨j, r, hj, h⟩
    exact ⟨r, List.mem_of_getElem? hj, decide_eq_true h⟩
theorem take_get {rs : List RaT} {d j : Nat} {r : RaT} (h : (rs.take d)[j]? = some r) : j < d ∧ rs[j]? = some r := by
  rw [List.getElem?_take] at h
  split at h
  · exact ⟨by assumption, h⟩
  · cases h
theorem mid_start {rs : List RaT} {n d : Nat} (f : Nat → Bool) (h : CutJ rs ((n : Int) - 1) d) : MidJ rs n f d f :=
  ⟨h.le, fun j r hj hr => by have := h.lo j r hj hr; omega, h.hi, fun s => by
    have : rJ (rs.take d) n s = false := by
      cases e : rJ (rs.take d) n s with
      | false => rfl
      | true =>
        obtain ⟨j, r, hj, h1, _⟩ := (rJ_iff _ _ _).1 e
        obtain ⟨h2, h3⟩ := take_get hj
        have := h.lo j r h2 h3
        omega
    rw [this, Bool.or_false]⟩
theorem mid_step {rs : List RaT} {n d : Nat} {f g : Nat → Bool} (h : MidJ rs n f d g) {r : RaT} (hr : rs[d]? = some r) (hn : r.at_ ≤ n) {s : Nat} (hs : r.soft = s) : MidJ rs n f (d + 1) (upS g s true) := by
  have hlt := (List.getElem?_eq_some_iff.1 hr).1
  have he : r.at_ = n := by have := h.hi d r (Nat.le_refl _) hr; omega
  refine ⟨hlt, fun j x hj hx => ?_, fun j x hj hx => h.hi j x (by omega) hx, fun x => ?_⟩
  · by_cases e : j = d
    · subst e; rw [hr] at hx; cases hx; exact hn
    · exact h.lo j x (by omega) hx
  · unfold upS
    have e : rJ (rs.take (d + 1)) n x = (rJ (rs.take d) n x || decide (x = s)) := by
      have : rs.take (d + 1) = rs.take d ++ [r] := by
        rw [List.take_add_one, hr]; rfl
      rw [this]
      unfold rJ
      rw [List.any_append]
      congr 1
      simp only [List.any_cons, List.any_nil, Bool.or_false, decide_eq_decide]
      omega
    rw [e]
    by_cases q : x = s
    · rw [if_pos q, decide_eq_true q, Bool.or_true, Bool.or_true]
    · rw [if_neg q, decide_eq_false q, Bool.or_false]; exact h.g x
theorem mid_end {rs : List RaT} {n d : Nat} {f g : Nat → Bool} (h : MidJ rs n f d g) (hd : ∀ j r, d ≤ j → rs[j]? = some r → (n : Int) < r.at_) : CutJ rs n d ∧ g = fun s => f s || rJ rs n s := by
  refine ⟨⟨h.le, h.lo, hd⟩, ?_⟩
  funext s
  rw [h.g s]
  congr 1
  rw [Bool.eq_iff_iff, rJ_iff, rJ_iff]
  constructor
  · rintro ⟨j, r, hj, h1⟩
    exact ⟨j, r, (take_get hj).2, h1⟩
  · rintro ⟨j, r, hj, h1, h2⟩
    have : j < d := by
      by_cases q : j < d
      · exact q
      · have := hd j r (by omega) hj; omega
    exact ⟨j, r, by rw [List.getElem?_take_of_lt this]; exact hj, h1, h2⟩
theorem cut_start {pend : List Int} {rs : List RaT} (h : RtJ pend rs) : CutJ rs (((0 : Nat) : Int) - 1) 0 :=
  ⟨Nat.zero_le _, fun j r hj => by omega, fun j r _ hr => by
    have h0 : rs[0]? = some (rs[0]'(by have := (List.getElem?_eq_some_iff.1 hr).1; omega)) := List.getElem?_eq_getElem _
    have h1 := ra_mono h.2.2 j 0 _ r h0 (by rw [Nat.zero_add]; exact hr)
    have h2 := (h.2.2 0 _ h0).2.1
    rw [prev_zero] at h2
    omega⟩
/-- Behind the first that is later all are later. -/
theorem hi_all {p : Int} {rs : List RaT} (h : RaUp p rs) {n : Int} {d : Nat} (hd : ∀ r, rs[d]? = some r → n < r.at_) : ∀ j r, d ≤ j → rs[j]? = some r → n < r.at_ := fun j r hj hr => by
  have hlt : d < rs.length := by have := (List.getElem?_eq_some_iff.1 hr).1; omega
  have hc : rs[d]? = some rs[d] := List.getElem?_eq_getElem hlt
  have h1 := ra_mono h (j - d) d _ r hc (by rw [show d + (j - d) = j by omega]; exact hr)
  have := hd _ hc
  omega
/-- What is named at the start. -/
def pendJ (l : List Int) (s : Nat) : Bool := decide ((s : Int) ∈ l)
def stJ (pend : List Int) (rs : List RaT) : SfT := startJ (rJ rs) (pendJ pend)
def rdJ (pend : List Int) (rs : List RaT) (n : Nat) : SfT := rdsJ (rJ rs) (stJ pend rs) n
/-- What runs, and how many of them in the first rounds. -/
def runJ (pend : List Int) (rs : List RaT) : List Nat := (rdJ pend rs 409).ran
def firstJ (pend : List Int) (rs : List RaT) (n : Nat) : Nat := (rdJ pend rs n).ran.length
theorem raise_in8 {pend : List Int} {rs : List RaT} (h : RtJ pend rs) : ∀ j, In8 (rJ rs j) := fun j s hs => by
  obtain ⟨i, r, hi, _, h2⟩ := (rJ_iff _ _ _).1 hs
  have := (h.2.2 i r hi).1
  omega
theorem rd_len {pend : List Int} {rs : List RaT} (h : RtJ pend rs) (n : Nat) : (rdJ pend rs n).ran.length ≤ 408 := by
  have h1 := ran_bound (rs := rs) (pend := pendJ pend) (raise_in8 h) n
  have h2 := h.2.1
  unfold rdJ stJ
  omega
theorem rd_grow {pend : List Int} {rs : List RaT} {n : Nat} (h : ¬ EmptyJ (rdJ pend rs n).now) : (rdJ pend rs n).ran.length < (rdJ pend rs (n + 1)).ran.length := by
  unfold EmptyJ at h
  have : ∃ s, s < 8 ∧ (rdJ pend rs n).now s = true := by
    refine Classical.byContradiction fun e => h fun s hs => ?_
    cases g : (rdJ pend rs n).now s with
    | false => rfl
    | true => exact absurd ⟨s, hs, g⟩ e
  obtain ⟨s, hs, g⟩ := this
  exact scan_len g 8 hs
theorem rd_stay {pend : List Int} {rs : List RaT} {n m : Nat} (h : EmptyJ (rdJ pend rs n).now) (hm : n ≤ m) : (rdJ pend rs m).ran = (rdJ pend rs n).ran ∧ EmptyJ (rdJ pend rs m).now := by
  refine ⟨rds_done rfl h hm, ?_⟩
  obtain ⟨d, rfl⟩ : ∃ d, m = n + d := ⟨m - n, by omega⟩
  unfold rdJ
  rw [rds_add]
  exact (rds_empty h (rds_next rfl n) d).2
theorem rd_at_least {pend : List Int} {rs : List RaT} : ∀ n, (∀ k, k < n → ¬ EmptyJ (rdJ pend rs k).now) → n ≤ (rdJ pend rs n).ran.length
  | 0, _ => Nat.zero_le _
  | n + 1, h => by
    have h1 := rd_at_least n fun k hk => h k (by omega)
    have h2 := rd_grow (h n (by omega))
    omega
theorem rd_end {pend : List Int} {rs : List RaT} (h : RtJ pend rs) : EmptyJ (rdJ pend rs 409).now := by
  refine Classical.byContradiction fun e => ?_
  have h1 := rd_at_least (pend := pend) (rs := rs) 409 fun k hk q => e (rd_stay q (by omega)).2
  have h2 := rd_len h 409
  omega
theorem run_of {pend : List Int} {rs : List RaT} (h : RtJ pend rs) {n : Nat} (e : EmptyJ (rdJ pend rs n).now) : (rdJ pend rs n).ran = runJ pend rs := by
  unfold runJ
  by_cases q : n ≤ 409
  · exact (rd_stay e q).1.symm
  · exact (rd_stay (rd_end h) (by omega)).1
theorem first_of {pend : List Int} {rs : List RaT} {n m : Nat} (e : EmptyJ (rdJ pend rs n).now) : (rdJ pend rs (min n m)).ran.length = firstJ pend rs m := by
  unfold firstJ
  by_cases q : n ≤ m
  · rw [Nat.min_eq_left q, (rd_stay e q).1]
  · rw [Nat.min_eq_right (by omega)]
theorem first_le {pend : List Int} {rs : List RaT} (h : RtJ pend rs) (n : Nat) : firstJ pend rs n ≤ (runJ pend rs).length := by
  unfold firstJ runJ
  by_cases q : n ≤ 409
  · exact (rds_mono q).length_le
  · rw [(rd_stay (rd_end h) (by omega : 409 ≤ n)).1]; exact Nat.le_refl _
theorem first_mono {pend : List Int} {rs : List RaT} {n m : Nat} (h : n ≤ m) : firstJ pend rs n ≤ firstJ pend rs m := (rds_mono h).length_le
/-- A list of small numbers as Go has it. -/
def natL (l : List Nat) : List Int := l.map fun (x : Nat) => (x : Int)
theorem natL_len (l : List Nat) : (natL l).length = l.length := by simp [natL]
theorem natL_app (l m : List Nat) : natL (l ++ m) = natL l ++ natL m := by simp [natL]
theorem rd_succ (pend : List Int) (rs : List RaT) (n : Nat) : rdJ pend rs (n + 1) = ⟨(scanJ (rJ rs) (rdJ pend rs n) 8).next, fun _ => false, (scanJ (rJ rs) (rdJ pend rs n) 8).ran⟩ := rfl
theorem rd_next (pend : List Int) (rs : List RaT) (n : Nat) : (rdJ pend rs n).next = fun _ => false := rds_next rfl n
theorem scan_len9 {pend : List Int} {rs : List RaT} (h : RtJ pend rs) (n k : Nat) (hk : k ≤ 8) : (scanJ (rJ rs) (rdJ pend rs n) k).ran.length ≤ 408 := by
  have h1 : ∀ k, k ≤ 8 → (scanJ (rJ rs) (rdJ pend rs n) k).ran.length ≤ (scanJ (rJ rs) (rdJ pend rs n) 8).ran.length := by
    intro k hk
    have : ∀ j i, i + j = 8 → (scanJ (rJ rs) (rdJ pend rs n) i).ran.length ≤ (scanJ (rJ rs) (rdJ pend rs n) 8).ran.length := by
      intro j
      induction j with
      | zero => intro i hi; rw [show i = 8 by omega]; exact Nat.le_refl _
      | succ j ih =>
        intro i hi
        refine Nat.le_trans ?_ (ih (i + 1) (by omega))
        cases g : (rdJ pend rs n).now i with
        | true => rw [scan_yes g]; simp
        | false => rw [scan_no g]; exact Nat.le_refl _
    exact this (8 - k) k (by omega)
  exact Nat.le_trans (h1 k hk) (rd_len h (n + 1))
end Go.Proofs.Ytnaplbkigebdiaa
