/- CoresDone: the walk. -/
import Derived.Test.YtningajaimbncaaCorJ
namespace Go.Proofs.Ytningajaimbncaa
open Go.RowKit

theorem wrong_two (c sl : Int) (l : List ThT) : wrongN c sl l = 0 ∨ wrongN c sl l = 2 := by
  unfold wrongN
  split
  · exact Or.inl rfl
  · exact Or.inr rfl
/-- How often a number stands in a row. -/
def cntI (L : List Int) (k : Nat) : Nat := L.count ((k : Nat) : Int)
theorem cntI_next {L : List Int} {j x : Nat} (hx : L[j]? = some ((x : Nat) : Int)) (k : Nat) : cntI (L.take (j + 1)) k = if k = x then cntI (L.take j) k + 1 else cntI (L.take j) k := by
  unfold cntI
  rw [List.take_add_one, hx, List.count_append]
  by_cases h : k = x
  · subst h; simp
  · have : ¬ (x : Int) = (k : Int) := by omega
    rw [if_neg h]
    simp [this]
theorem cnt_nodup (k : Nat) : ∀ {R : List Nat}, (R.Pairwise fun x y => ¬ x = y) → (R.map fun x => ((x : Nat) : Int)).count ((k : Nat) : Int) = if k ∈ R then 1 else 0
  | [], _ => by simp
  | x :: r, h => by
    rw [List.pairwise_cons] at h
    have ih := cnt_nodup k h.2
    rw [List.map_cons, List.count_cons, ih]
    by_cases e : x = k
    · subst e
      have : ¬ x ∈ r := fun q => h.1 x q rfl
      simp [this]
    · have e1 : ¬ (x : Int) = (k : Int) := by omega
      have e2 : ¬ k = x := fun q => e q.symm
      simp [e1, e2]
theorem cnt_row {T : ThN} (hl : ∀ k, k < T.m → T.lev k < 32) (t k : Nat) : cntI (rowN T t) k = if k ∈ T.runN t then 1 else 0 := by
  unfold cntI rowN
  rw [(List.mergeSort_perm _ _).count_eq]
  exact cnt_nodup k (run_nod hl t)
theorem row_mem {T : ThN} (hl : ∀ k, k < T.m → T.lev k < 32) {t j : Nat} {x : Int} (hx : (rowN T t)[j]? = some x) : ∃ k : Nat, x = (k : Nat) ∧ k ∈ T.runN t ∧ k < T.m := by
  have h := List.mem_of_getElem? hx
  unfold rowN at h
  rw [(List.mergeSort_perm _ _).mem_iff, List.mem_map] at h
  obtain ⟨k, hk, rfl⟩ := h
  exact ⟨k, rfl, hk, (run_ready hl t k hk).1⟩
/-- What the program has counted, j numbers into row t. -/
def cntT (T : ThN) (t j : Nat) (k : Nat) : Int := ((cntN T k t + cntI ((rowN T t).take j) k : Nat) : Int)
theorem cntT_zero (T : ThN) (t k : Nat) : cntT T t 0 k = ((cntN T k t : Nat) : Int) := by simp [cntT, cntI]
theorem cntT_next {T : ThN} {t j x : Nat} (hx : (rowN T t)[j]? = some ((x : Nat) : Int)) (k : Nat) : cntT T t (j + 1) k = upF (cntT T t j) x (cntT T t j x + 1) k := by
  unfold cntT upF
  rw [cntI_next hx]
  by_cases h : k = x
  · rw [if_pos h, if_pos h, h]; omega
  · rw [if_neg h, if_neg h]
theorem cntT_end {T : ThN} (hl : ∀ k, k < T.m → T.lev k < 32) (t k : Nat) : cntT T t (rowN T t).length k = ((cntN T k (t + 1) : Nat) : Int) := by
  unfold cntT
  rw [List.take_length, cnt_row hl]
  rfl
theorem cntT_le (T : ThN) (t j k : Nat) : 0 ≤ cntT T t j k ∧ cntT T t j k ≤ t + j := by
  unfold cntT
  have h1 := cnt_all T k t
  have h2 : cntI ((rowN T t).take j) k ≤ j := Nat.le_trans List.count_le_length (List.length_take_le _ _)
  omega
where cnt_all (T : ThN) (k : Nat) : ∀ t, cntN T k t ≤ t
  | 0 => Nat.le_refl _
  | t + 1 => by
    have := cnt_all T k t
    simp only [cntN]
    split <;> omega
/-- The counts in memory while they are made. -/
structure LpC (w1 wr : World) (B m : Nat) (f : Nat → Int) : Prop where
  b : Below w1.heap.size w1 wr
  r : RowZ wr B m f
  lt : w1.heap.size ≤ B
section
variable {w1 wr w' : World} {B m : Nat} {f : Nat → Int}
theorem LpC.step (h : LpC w1 wr B m f) (hb : Below wr.heap.size wr w') : LpC w1 w' B m f := ⟨pstep h.b hb, h.r.step hb, h.lt⟩
theorem LpC.put (h : LpC w1 wr B m f) {i : Nat} (hi : i < m) (v : Int) : LpC w1 (wr.setCell ⟨B, i, none⟩ (.int .i64 v)) B m (upF f i v) := ⟨h.b.setCell (p := ⟨B, i, none⟩) h.lt _, h.r.put hi v, h.lt⟩
theorem LpC.congr (h : LpC w1 wr B m f) {g : Nat → Int} (e : ∀ i, i < m → g i = f i) : LpC w1 wr B m g := ⟨h.b, h.r.congr e, h.lt⟩
end
/-- The latest coming of the first k. -/
def mxF (f : Nat → Nat) : Nat → Nat
  | 0 => 0
  | k + 1 => max (mxF f k) (f k)
theorem mx_ge {f : Nat → Nat} : ∀ {n k : Nat}, k < n → f k ≤ mxF f n
  | n + 1, k, h => by
    simp only [mxF]
    by_cases e : k = n
    · subst e; omega
    · have := mx_ge (f := f) (n := n) (k := k) (by omega)
      omega
theorem mx_le {f : Nat → Nat} {b : Nat} : ∀ {n : Nat}, (∀ k, k < n → f k ≤ b) → mxF f n ≤ b
  | 0, _ => Nat.zero_le _
  | n + 1, h => by
    have h1 := mx_le (f := f) (n := n) fun k hk => h k (by omega)
    have h2 := h n (by omega)
    simp only [mxF]
    omega
theorem tot_bound {f : Nat → Nat} {b : Nat} : ∀ {n : Nat}, (∀ k, k < n → f k ≤ b) → totN f n ≤ n * b
  | 0, _ => by simp [totN]
  | n + 1, h => by
    have h1 := tot_bound (f := f) (n := n) fun k hk => h k (by omega)
    have h2 := h n (by omega)
    simp only [totN]
    rw [Nat.add_mul]
    omega
def cmT (l : List ThT) (k : Nat) : Nat := (l.getD k ⟨0, 0, 0⟩).c.toNat
def wkT (l : List ThT) (k : Nat) : Nat := (l.getD k ⟨0, 0, 0⟩).w.toNat
/-- What the first loop has seen. -/
def Seen (l : List ThT) (k : Nat) : Prop := ∀ i t, i < k → l[i]? = some t → (0 ≤ t.c ∧ t.c ≤ 300) ∧ 0 ≤ t.w ∧ t.w ≤ 30
theorem Seen.next {l : List ThT} {k : Nat} (h : Seen l k) {t : ThT} (ht : l[k]? = some t) (h1 : (0 ≤ t.c ∧ t.c ≤ 300) ∧ 0 ≤ t.w ∧ t.w ≤ 30) : Seen l (k + 1) := fun i t' hi ht' => by
  by_cases e : i = k
  · subst e; rw [ht] at ht'; cases ht'; exact h1
  · exact h i t' (by omega) ht'
theorem Seen.le {l : List ThT} {n : Nat} (h : Seen l n) (hn : l.length = n) (k : Nat) : cmT l k ≤ 300 ∧ wkT l k ≤ 30 := by
  unfold cmT wkT
  by_cases hk : k < n
  · have e := List.getElem?_eq_getElem (show k < l.length by omega)
    have := h k _ hk e
    have e2 : l.getD k ⟨0, 0, 0⟩ = l[k]'(by omega) := by simp [List.getD, e]
    rw [e2]
    omega
  · have e2 : l.getD k ⟨0, 0, 0⟩ = ⟨0, 0, 0⟩ := by simp [List.getD, List.getElem?_eq_none (show l.length ≤ k by omega)]
    rw [e2]
    exact ⟨by decide, by decide⟩
theorem at_cm {l : List ThT} {k : Nat} {t : ThT} (ht : l[k]? = some t) (h1 : 0 ≤ t.c) (h2 : 0 ≤ t.w) : t.c = (cmT l k : Nat) ∧ t.w = (wkT l k : Nat) := by
  unfold cmT wkT
  have e : l.getD k ⟨0, 0, 0⟩ = t := by simp [List.getD, ht]
  rw [e]
  omega
end Go.Proofs.Ytningajaimbncaa
