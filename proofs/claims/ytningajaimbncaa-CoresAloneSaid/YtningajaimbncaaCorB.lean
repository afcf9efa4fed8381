/- Package cores in memory: threads as given, threads behind pointers, the queue, the machine. -/
import Derived.Test.YtningajaimbncaaCorA
import Derived.Test.YtningajaimbncaaNum
import Derived.Test.YtningajaimbncaaCrsT
import Derived.StillTailTactics
namespace Go.Proofs.Ytningajaimbncaa
open Go.RowKit

/-- A thread as given. -/
structure ThT where
  c : Int
  l : Int
  w : Int
def shT : Shape ThT := ⟨3, fun r => [.int .i64 r.c, .int .i64 r.l, .int .i64 r.w], fun _ => rfl, fun _ u hu => by simp at hu; rcases hu with rfl | rfl | rfl <;> rfl, by decide⟩
theorem info_th : (Try.prog.info? 35).map (fun i => (i.zero, i.size, i.bytes)) = some (some (.agg #[.int .i64 0, .int .i64 0, .int .i64 0]), 3, 24) := by kernel_rfl
theorem info_ptr : (Try.prog.info? 58).map (fun i => (i.zero, i.size, i.bytes)) = some (some (.pointer none), 1, 8) := by kernel_rfl
theorem at_th {w : World} {ad : Option Addr} {cap k : Nat} {l : List ThT} {f : ThT} (h : shT.At w ad cap l) (hk : l[k]? = some f) : ∃ b off, ad = some ⟨b, off, none⟩ ∧ b < w.heap.size ∧ w.cell? ⟨b, off + k * 3, none⟩ = some (.int .i64 f.c) ∧ w.cell? ⟨b, off + k * 3 + 1, none⟩ = some (.int .i64 f.l) ∧ w.cell? ⟨b, off + k * 3 + 2, none⟩ = some (.int .i64 f.w) := by
  have hkl := (List.getElem?_eq_some_iff.1 hk).1
  obtain ⟨b, off, e, hb, hl⟩ := h.2 (by omega)
  have h0 := shT.flat_at l k 0 f hk (by decide)
  have h1 := shT.flat_at l k 1 f hk (by decide)
  have h2 := shT.flat_at l k 2 f hk (by decide)
  have hs : shT.size = 3 := rfl
  rw [hs] at h0 h1 h2 hl
  refine ⟨b, off, e, hb, ?_, ?_, ?_⟩
  · rw [show off + k * 3 = off + (k * 3 + 0) from rfl, hl _ (by omega), h0]; rfl
  · rw [Nat.add_assoc, hl _ (by omega), h1]; rfl
  · rw [Nat.add_assoc, hl _ (by omega), h2]; rfl
/-- Pointers in a row. -/
def shP : Shape Nat := ⟨1, fun b => [.pointer (some ⟨b, 0, none⟩)], fun _ => rfl, fun _ u hu => by simp at hu; subst hu; rfl, by decide⟩
theorem at_ptr {w : World} {ad : Option Addr} {cap k : Nat} {l : List Nat} {x : Nat} (h : shP.At w ad cap l) (hk : l[k]? = some x) : ∃ b off, ad = some ⟨b, off, none⟩ ∧ b < w.heap.size ∧ w.cell? ⟨b, off + k, none⟩ = some (.pointer (some ⟨x, 0, none⟩)) := by
  have hkl := (List.getElem?_eq_some_iff.1 hk).1
  obtain ⟨b, off, e, hb, hl⟩ := h.2 (by omega)
  have h0 := shP.flat_at l k 0 x hk (by decide)
  have hs : shP.size = 1 := rfl
  rw [hs, Nat.mul_one, Nat.add_zero] at h0
  rw [hs] at hl
  exact ⟨b, off, e, hb, by rw [hl _ (by omega), h0]; rfl⟩
theorem flat_ptr (l : List Nat) : shP.flat l = l.map fun b => .pointer (some ⟨b, 0, none⟩) := by
  induction l with
  | nil => rfl
  | cons a r ih => rw [show shP.flat (a :: r) = shP.enc a ++ shP.flat r from rfl, ih]; rfl
/-- The threads as plain numbers. -/
def thN (l : List ThT) (c sl : Nat) : ThN := ⟨l.length, fun k => (l.getD k ⟨0, 0, 0⟩).c.toNat, fun k => (l.getD k ⟨0, 0, 0⟩).l.toNat, fun k => (l.getD k ⟨0, 0, 0⟩).w.toNat, c, sl⟩
/-- What Wrong asks. -/
structure OkT (l : List ThT) (c sl : Nat) : Prop where
  c1 : 1 ≤ c
  c8 : c ≤ 8
  s1 : 1 ≤ sl
  s2 : sl ≤ 100
  len : l.length ≤ 64
  each : ∀ t ∈ l, (0 ≤ t.c ∧ t.c ≤ 10000) ∧ (0 ≤ t.l ∧ t.l ≤ 31) ∧ (0 ≤ t.w ∧ t.w ≤ 10000)
section
variable {l : List ThT} {c sl : Nat}
theorem OkT.at' (h : OkT l c sl) {k : Nat} {t : ThT} (hk : l[k]? = some t) : t.c = ((thN l c sl).come k : Nat) ∧ t.l = ((thN l c sl).lev k : Nat) ∧ t.w = ((thN l c sl).work k : Nat) ∧ (thN l c sl).lev k < 32 ∧ (thN l c sl).come k ≤ 10000 ∧ (thN l c sl).work k ≤ 10000 := by
  obtain ⟨⟨h1, h2⟩, ⟨h3, h4⟩, h5, h6⟩ := h.each t (List.mem_of_getElem? hk)
  have e : l.getD k ⟨0, 0, 0⟩ = t := by simp [List.getD, hk]
  refine ⟨?_, ?_, ?_, ?_, ?_, ?_⟩
  · show t.c = ((l.getD k ⟨0, 0, 0⟩).c.toNat : Int); rw [e]; omega
  · show t.l = ((l.getD k ⟨0, 0, 0⟩).l.toNat : Int); rw [e]; omega
  · show t.w = ((l.getD k ⟨0, 0, 0⟩).w.toNat : Int); rw [e]; omega
  · show (l.getD k ⟨0, 0, 0⟩).l.toNat < 32; rw [e]; omega
  · show (l.getD k ⟨0, 0, 0⟩).c.toNat ≤ 10000; rw [e]; omega
  · show (l.getD k ⟨0, 0, 0⟩).w.toNat ≤ 10000; rw [e]; omega
theorem OkT.lev (h : OkT l c sl) : ∀ k, k < (thN l c sl).m → (thN l c sl).lev k < 32 := fun _ hk => (h.at' (List.getElem?_eq_getElem hk)).2.2.2.1
theorem OkT.work (h : OkT l c sl) : ∀ k, k < (thN l c sl).m → (thN l c sl).work k ≤ 10000 := fun _ hk => (h.at' (List.getElem?_eq_getElem hk)).2.2.2.2.2
end
/-- A thread of the machine. -/
def ThrB (w : World) (T : ThN) (P left ran : Nat → Nat) (k : Nat) : Prop := w.heap[P k]? = some (.cells #[.int .i64 (T.come k : Nat), .int .i64 (T.lev k : Nat), .int .i64 (left k : Nat), .int .i64 (k : Nat), .int .i64 (ran k : Nat)] 60 (0, 0))
theorem five_at {w : World} {b : Nat} {x y z u v : Value} {t : TypeId} {fr : Nat × Nat} (h : w.heap[b]? = some (.cells #[x, y, z, u, v] t fr)) : w.cell? ⟨b, 0, none⟩ = some x ∧ w.cell? ⟨b, 1, none⟩ = some y ∧ w.cell? ⟨b, 2, none⟩ = some z ∧ w.cell? ⟨b, 3, none⟩ = some u ∧ w.cell? ⟨b, 4, none⟩ = some v := by
  refine ⟨?_, ?_, ?_, ?_, ?_⟩ <;> (rw [cell_of_row _ _ _ _ _ _ h]; rfl)
theorem cells_ne {w : World} {a b : Nat} {cs ds : Array Value} {t u : TypeId} {fr fr' : Nat × Nat} (ha : w.heap[a]? = some (.cells cs t fr)) (hb : w.heap[b]? = some (.cells ds u fr')) (hne : ¬ t = u) : ¬ a = b := by
  rintro rfl
  rw [ha] at hb
  simp only [Option.some.injEq, Obj.cells.injEq] at hb
  exact hne hb.2.1
/-- The machine in memory: the struct in block B, the queue's row, its threads. -/
structure MemN (w0 w : World) (B : Nat) (T : ThN) (P : Nat → Nat) (s : StM) (qv : Value) : Prop where
  b : Below w0.heap.size w0 w
  hB : w0.heap.size ≤ B
  hp : w.heap[B]? = some (.cells #[.int .i64 (T.c : Nat), .int .i64 (T.sl : Nat), qv] 48 (0, 0))
  own : w.ownsRow w0.heap.size 58 1 qv s.q.length (shP.flat (s.q.map P))
  thr : ∀ k ∈ s.q, ThrB w T P s.left s.ran k ∧ w0.heap.size ≤ P k
  inj : ∀ i ∈ s.q, ∀ j ∈ s.q, P i = P j → i = j
  len : s.q.length ≤ 64
/-- What is neither a thread nor the machine nor a row of pointers stays. -/
structure KeepN (w w' : World) : Prop where
  sz : w.heap.size ≤ w'.heap.size
  at_ : ∀ (b : Nat) (cs : Array Value) (t : TypeId) (fr : Nat × Nat), w.heap[b]? = some (.cells cs t fr) → ¬ t = 60 → ¬ t = 48 → ¬ t = 58 → w'.heap[b]? = some (.cells cs t fr)
section
variable {w w' w'' : World}
theorem KeepN.refl (w : World) : KeepN w w := ⟨Nat.le_refl _, fun _ _ _ _ h _ _ _ => h⟩
theorem KeepN.trans (h : KeepN w w') (h' : KeepN w' w'') : KeepN w w'' := ⟨Nat.le_trans h.sz h'.sz, fun b cs t fr hb h1 h2 h3 => h'.at_ b cs t fr (h.at_ b cs t fr hb h1 h2 h3) h1 h2 h3⟩
theorem keep_below (hb : Below w.heap.size w w') : KeepN w w' := ⟨hb.size, fun _ _ _ _ h _ _ _ => heap_step h hb⟩
theorem keep_row {base size n : Nat} {v : Value} {xs : List Value} (h : w.ownsRow base 58 size v n xs) (hg : w.grownBy w' v.ownBlock) : KeepN w w' :=
  ⟨hg.size, fun b _ _ _ hb _ _ h3 => (hg.block b (heap_lt hb) (fun e => own_ne h hb h3 b e.symm rfl)).trans hb⟩
theorem keep_set {B i : Nat} {R : Array Value} {t : TypeId} {u : Value} {fr : Nat × Nat} (h : w.heap[B]? = some (.cells R t fr)) (ht : t = 60 ∨ t = 48) : KeepN w (w.setCell ⟨B, i, none⟩ u) :=
  ⟨by simp, fun b cs t' fr' hb h1 h2 _ => (Below.heap_setCell w ⟨B, i, none⟩ u b (fun e => by
    simp only at e
    subst e
    rw [h] at hb
    simp only [Option.some.injEq, Obj.cells.injEq] at hb
    rcases ht with e | e
    · exact h1 (hb.2.1.symm.trans e)
    · exact h2 (hb.2.1.symm.trans e))).trans hb⟩
end
section
variable {w0 w w' : World} {B : Nat} {T : ThN} {P : Nat → Nat} {s : StM} {qv : Value}
theorem MemN.step (h : MemN w0 w B T P s qv) (hb : Below w.heap.size w w') : MemN w0 w' B T P s qv :=
  ⟨pstep h.b hb, h.hB, heap_step h.hp hb, own_step h.own hb, fun k hk => ⟨heap_step (h.thr k hk).1 hb, (h.thr k hk).2⟩, h.inj, h.len⟩
theorem MemN.lt (h : MemN w0 w B T P s qv) : B < w.heap.size := heap_lt h.hp
theorem MemN.froz (h : MemN w0 w B T P s qv) (i : Nat) : w.frozen? ⟨B, i, none⟩ = false := frozen_of_row w B i _ _ h.hp
theorem MemN.cells (h : MemN w0 w B T P s qv) : w.cell? ⟨B, 0, none⟩ = some (.int .i64 (T.c : Nat)) ∧ w.cell? ⟨B, 1, none⟩ = some (.int .i64 (T.sl : Nat)) ∧ w.cell? ⟨B, 2, none⟩ = some qv := trio_at h.hp
theorem MemN.thrAt (h : MemN w0 w B T P s qv) {k : Nat} (hk : k ∈ s.q) : w.cell? ⟨P k, 1, none⟩ = some (.int .i64 (T.lev k : Nat)) ∧ w.cell? ⟨P k, 2, none⟩ = some (.int .i64 (s.left k : Nat)) ∧ w.cell? ⟨P k, 3, none⟩ = some (.int .i64 (k : Nat)) ∧ w.cell? ⟨P k, 4, none⟩ = some (.int .i64 (s.ran k : Nat)) ∧ P k < w.heap.size ∧ ∀ i, w.frozen? ⟨P k, i, none⟩ = false := by
  have ht := (h.thr k hk).1
  obtain ⟨_, h1, h2, h3, h4⟩ := five_at ht
  exact ⟨h1, h2, h3, h4, heap_lt ht, fun i => frozen_of_row w _ i _ _ ht⟩
theorem MemN.rows (h : MemN w0 w B T P s qv) : ∃ ad cap, qv = .slice ad s.q.length cap ∧ shP.At w ad cap (s.q.map P) := by
  obtain ⟨ad, cap, rfl, _⟩ := own_shape h.own
  exact ⟨ad, cap, rfl, Shape.At.own (S := shP) h.own (by simp)⟩
/-- A store into a thread. -/
theorem MemN.setL (h : MemN w0 w B T P s qv) {k : Nat} (hk : k ∈ s.q) (v : Nat) : MemN w0 (w.setCell ⟨P k, 2, none⟩ (.int .i64 (v : Nat))) B T P ⟨s.q, upd s.left k v, s.ran⟩ qv := by
  obtain ⟨ht, h0⟩ := h.thr k hk
  have hBx : ¬ B = P k := cells_ne h.hp ht (by decide)
  have hne : ∀ g, qv.ownBlock = some g → g ≠ P k := own_ne (t := 60) h.own ht (by decide)
  refine ⟨h.b.trans (Below.setCell (Below.refl _ _) h0 _), h.hB, (Below.heap_setCell w _ _ B hBx).trans h.hp, own_set h.own hne _, fun j hj => ⟨?_, (h.thr j hj).2⟩, h.inj, h.len⟩
  unfold ThrB
  by_cases e : j = k
  · subst e
    rw [show (⟨s.q, upd s.left j v, s.ran⟩ : StM).left j = v from upd_same _ _ _]
    exact heap_setCell_same w (P j) 2 _ _ _ ht
  · rw [show (⟨s.q, upd s.left k v, s.ran⟩ : StM).left j = s.left j from upd_other e]
    exact (Below.heap_setCell w _ _ (P j) (fun q => e (h.inj j hj k hk q))).trans (h.thr j hj).1
theorem MemN.setR (h : MemN w0 w B T P s qv) {k : Nat} (hk : k ∈ s.q) (v : Nat) : MemN w0 (w.setCell ⟨P k, 4, none⟩ (.int .i64 (v : Nat))) B T P ⟨s.q, s.left, upd s.ran k v⟩ qv := by
  obtain ⟨ht, h0⟩ := h.thr k hk
  have hBx : ¬ B = P k := cells_ne h.hp ht (by decide)
  have hne : ∀ g, qv.ownBlock = some g → g ≠ P k := own_ne (t := 60) h.own ht (by decide)
  refine ⟨h.b.trans (Below.setCell (Below.refl _ _) h0 _), h.hB, (Below.heap_setCell w _ _ B hBx).trans h.hp, own_set h.own hne _, fun j hj => ⟨?_, (h.thr j hj).2⟩, h.inj, h.len⟩
  unfold ThrB
  by_cases e : j = k
  · subst e
    rw [show (⟨s.q, s.left, upd s.ran j v⟩ : StM).ran j = v from upd_same _ _ _]
    exact heap_setCell_same w (P j) 4 _ _ _ ht
  · rw [show (⟨s.q, s.left, upd s.ran k v⟩ : StM).ran j = s.ran j from upd_other e]
    exact (Below.heap_setCell w _ _ (P j) (fun q => e (h.inj j hj k hk q))).trans (h.thr j hj).1
theorem MemN.keepT (h : MemN w0 w B T P s qv) {k : Nat} (hk : k ∈ s.q) (i : Nat) (u : Value) : KeepN w (w.setCell ⟨P k, i, none⟩ u) := keep_set (h.thr k hk).1 (Or.inl rfl)
/-- Only what is asked of the threads in the queue matters. -/
theorem MemN.congr (h : MemN w0 w B T P s qv) {left ran : Nat → Nat} (hl : ∀ k ∈ s.q, left k = s.left k) (hr : ∀ k ∈ s.q, ran k = s.ran k) : MemN w0 w B T P ⟨s.q, left, ran⟩ qv :=
  ⟨h.b, h.hB, h.hp, h.own, fun k hk => ⟨by
    have := (h.thr k hk).1
    unfold ThrB at this ⊢
    rw [show (⟨s.q, left, ran⟩ : StM).left k = s.left k from hl k hk, show (⟨s.q, left, ran⟩ : StM).ran k = s.ran k from hr k hk]
    exact this, (h.thr k hk).2⟩, h.inj, h.len⟩
/-- The queue is another row, and is stored. -/
theorem MemN.putQ (h : MemN w0 w B T P s qv) {w' : World} {P' : Nat → Nat} {s' : StM} {qv' : Value} (hg : w.grownBy w' qv.ownBlock) (ho : w'.ownsRow w0.heap.size 58 1 qv' s'.q.length (shP.flat (s'.q.map P')))
    (ht : ∀ k ∈ s'.q, ThrB w' T P' s'.left s'.ran k ∧ w0.heap.size ≤ P' k) (hi : ∀ i ∈ s'.q, ∀ j ∈ s'.q, P' i = P' j → i = j) (hl : s'.q.length ≤ 64) :
    w'.heap[B]? = some (.cells #[.int .i64 (T.c : Nat), .int .i64 (T.sl : Nat), qv] 48 (0, 0)) ∧ MemN w0 (w'.setCell ⟨B, 2, none⟩ qv') B T P' s' qv' := by
  have hk : ∀ (b : Nat) (cs : Array Value) (t : TypeId) (fr : Nat × Nat), w.heap[b]? = some (.cells cs t fr) → ¬ t = 58 → w'.heap[b]? = some (.cells cs t fr) := fun b _ _ _ hb ht => (hg.block b (heap_lt hb) (fun e => own_ne h.own hb ht b e.symm rfl)).trans hb
  have hp' := hk _ _ _ _ h.hp (by decide)
  refine ⟨hp', ((h.b.grown hg h.b.size (fun _ e => (own_lt h.own e).1)).trans (Below.setCell (Below.refl _ _) h.hB _)), h.hB, heap_setCell_same w' B 2 _ _ _ hp', own_set ho (own_ne ho hp' (by decide)) _, fun k hk => ⟨?_, (ht k hk).2⟩, hi, hl⟩
  exact (Below.heap_setCell w' ⟨B, 2, none⟩ _ (P' k) (cells_ne (ht k hk).1 hp' (by decide))).trans (ht k hk).1
end
end Go.Proofs.Ytningajaimbncaa
