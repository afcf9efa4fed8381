/- What the table says of the slots stays true when slots are dropped and put. -/
import Derived.Test.YtmldedkmmhnihaaDoorVecQ
namespace Go.Proofs.YtmldedkmmhnihaaDoor
open Go.RowKit

theorem pick_congr {n n' : Nat → Nat} {ok ok' : Nat → Bool} : ∀ {k : Nat}, (∀ c, c < k → n c = n' c ∧ ok c = ok' c) → pick n ok k = pick n' ok' k
  | 0, _ => rfl
  | k + 1, h => by
    have ih := pick_congr (k := k) (fun c hc => h c (by omega))
    obtain ⟨h1, h2⟩ := h k (by omega)
    rw [pick, pick, ih, h1, h2]
    cases e : pick n' ok' k with
    | none => rfl
    | some b =>
      have := (pick_some e).1
      simp only
      rw [(h b (by omega)).1]
theorem find_congr {f g : Nat → Bool} : ∀ (l : List Nat), (∀ m, m ∈ l → f m = g m) → l.find? f = l.find? g
  | [], _ => rfl
  | x :: r, h => by
    rw [List.find?_cons, List.find?_cons, h x (by simp), find_congr r (fun m hm => h m (by simp [hm]))]
theorem nextOf_256 {p q : Nat → Bool} {f : Int} (h : ∀ m, m < 256 → p m = q m) : nextOf p f = nextOf q f := by
  unfold nextOf
  rw [find_congr (f := fun n => p n && decide (f ≤ (n : Int))) (g := fun n => q n && decide (f ≤ (n : Int))) (List.range 256) (fun m hm => by
    have : m < 256 := by simpa using hm
    rw [h m this])]
theorem cnt_le (l : List SlotT) (c : Nat) : cntV l c ≤ l.length := List.countP_le_length
theorem cnt_pos {l : List SlotT} {i : Nat} (hi : i < l.length) (h0 : 0 < (l.getD i zs).vec) : 0 < cntV l (l.getD i zs).core := by
  have := cnt_drop (d := (l.getD i zs).core) hi h0
  rw [if_pos rfl] at this
  omega
theorem tie_drop {cores i c v t : Nat} {l : List SlotT} {fr : Nat → Q4} {tk : Nat → Nat} {q : Q4} (g : GoodV cores l) (h : TieV cores l fr tk) (hi : i < l.length) (hs : l.getD i zs = ⟨c, v⟩) (hv : 0 < v) (hq : fr c = q) (ht : tk c = t + 1) :
    TieV cores (l.set i zs) (fun d => if d = c then ⟨up 0 v q.a, up 1 v q.b, up 2 v q.c, up 3 v q.d⟩ else fr d) (fun d => if d = c then t else tk d) := by
  have h0 : 0 < (l.getD i zs).vec := by rw [hs]; exact hv
  intro d hd
  obtain ⟨h1, h2, h3⟩ := h d hd
  have hc := cnt_drop (d := d) hi h0
  have hf := fun m => free_drop (d := d) (m := m) g hi h0
  rw [hs] at hc hf
  simp only at hc hf
  by_cases e : d = c
  · subst e
    simp only [if_true] at hc ⊢
    rw [hq] at h1 h2
    refine ⟨Ok.up v h1, fun m hm => ?_, by omega⟩
    rw [hf]
    show mem (up 0 v q.a) (up 1 v q.b) (up 2 v q.c) (up 3 v q.d) m = _
    rw [mem_up _ _ _ _ _ _ hm, ← h2 m hm]
    simp [Q4.mem]
  · simp only [if_neg e] at hc ⊢
    refine ⟨h1, fun m hm => ?_, by omega⟩
    rw [hf, h2 m hm]
    simp [e]
theorem tie_put {cores i c v : Nat} {l : List SlotT} {fr : Nat → Q4} {tk : Nat → Nat} {q : Q4} (h : TieV cores l fr tk) (hi : i < l.length) (h0 : (l.getD i zs).vec = 0) (hv : 32 ≤ v) (hq : fr c = q) :
    TieV cores (l.set i ⟨c, v⟩) (fun d => if d = c then ⟨dn 0 v q.a, dn 1 v q.b, dn 2 v q.c, dn 3 v q.d⟩ else fr d) (fun d => if d = c then tk c + 1 else tk d) := by
  intro d hd
  obtain ⟨h1, h2, h3⟩ := h d hd
  have hc := cnt_put (c := c) (d := d) hi h0 hv
  have hf := fun m => free_put (c := c) (v := v) (d := d) (m := m) hi h0
  by_cases e : d = c
  · subst e
    simp only [if_true] at hc ⊢
    rw [hq] at h1 h2
    refine ⟨Ok.dn v h1, fun m hm => ?_, by omega⟩
    rw [hf]
    show mem (dn 0 v q.a) (dn 1 v q.b) (dn 2 v q.c) (dn 3 v q.d) m = _
    rw [mem_dn _ _ _ _ _ _ hm, ← h2 m hm]
    simp [Q4.mem]
  · simp only [if_neg e] at hc ⊢
    refine ⟨h1, fun m hm => ?_, by omega⟩
    rw [hf, h2 m hm]
    simp [e]
/-- The table in memory, and what it says of the slots. -/
def VS (W : Base) (T B cores : Nat) (l : List SlotT) (w : World) : Prop := (cores ≤ 8 ∧ l.length ≤ 2000 ∧ GoodV cores l) ∧ ∃ fr tk, RawV W T B cores l fr tk w ∧ TieV cores l fr tk
section
variable {W : Base} {w w' : World} {T B cores : Nat} {l : List SlotT}
theorem VS.step (r : VS W T B cores l w) (hb : Below w.heap.size w w') : VS W T B cores l w' := by
  obtain ⟨h1, fr, tk, h2, h3⟩ := r
  exact ⟨h1, fr, tk, h2.step hb, h3⟩
theorem VS.alloc (r : VS W T B cores l w) (o : Obj) : VS W T B cores l (w.alloc o) := r.step ((Below.refl _ _).alloc (Nat.le_refl _) o)
theorem VS.drew (r : VS W T B cores l w) : VS W T B cores l w.drew := by
  obtain ⟨h1, fr, tk, h2, h3⟩ := r
  exact ⟨h1, fr, tk, h2.drew, h3⟩
theorem VS.drewN (r : VS W T B cores l w) (q : Nat) : VS W T B cores l (w.drewN q) := r.step (below_drewN (Below.refl _ _) q)
theorem VS.below (r : VS W T B cores l w) : Below W.w.heap.size W.w w := by
  obtain ⟨_, fr, tk, h2, _⟩ := r
  exact h2.1
theorem VS.lt (r : VS W T B cores l w) : T < w.heap.size ∧ B < w.heap.size ∧ W.w.heap.size ≤ T ∧ W.w.heap.size ≤ B ∧ T ≠ B := by
  obtain ⟨_, fr, tk, h2, _⟩ := r
  exact ⟨h2.2.2.2.1.lt, h2.2.2.1.lt, h2.2.1.1, h2.2.1.2.1, h2.2.1.2.2⟩
theorem VS.head (r : VS W T B cores l w) : w.cell? ⟨T, 0, none⟩ = some (.int .i64 (cores : Int)) ∧ w.cell? ⟨T, 1, none⟩ = some (.slice (some ⟨B, 0, none⟩) l.length l.length) := by
  obtain ⟨_, fr, tk, h2, _⟩ := r
  exact h2.head
theorem VS.slot (r : VS W T B cores l w) {k : Nat} (h : k < l.length) : w.cell? ⟨B, k * 2, none⟩ = some (.int .i64 ((l.getD k zs).core : Int)) ∧ w.cell? ⟨B, k * 2 + 1, none⟩ = some (.int .i64 ((l.getD k zs).vec : Int)) := by
  obtain ⟨_, fr, tk, h2, _⟩ := r
  exact h2.slot h
end
end Go.Proofs.YtmldedkmmhnihaaDoor
