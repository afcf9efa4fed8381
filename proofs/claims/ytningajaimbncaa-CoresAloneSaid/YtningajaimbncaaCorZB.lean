/- CoresAlone: what is in memory while those of at least a level are gathered. -/
import Derived.Test.YtningajaimbncaaCorZA
import Derived.Deep.RegionHeld3
namespace Go.Proofs.Ytningajaimbncaa
open Go.RowKit

/-- The thread's copy as a block. -/
def thC (t : ThT) : Obj := .cells #[.int .i64 t.c, .int .i64 t.l, .int .i64 t.w] 35
def inC (k : Nat) : Obj := .cells #[.int .i64 (k : Nat)] 3
structure RS (w0 : World) (X TB : Nat) (t : ThT) (vb : Value) (wx : World) : Prop where
  b : Below w0.heap.size w0 wx
  x : wx.heap[X]? = some (.cells #[vb] 29 (0, 0))
  t : wx.heap[TB]? = some (.cells #[.int .i64 t.c, .int .i64 t.l, .int .i64 t.w] 35 (0, 0))
structure RT (TB : Nat) (t : ThT) (wx : World) : Prop where
  t : wx.heap[TB]? = some (.cells #[.int .i64 t.c, .int .i64 t.l, .int .i64 t.w] 35 (0, 0))
structure RA (w0 : World) (X TB : Nat) (t : ThT) (vb v1 : Value) (n1 : Nat) (xs : List ThT) (v2 : Value) (n2 : Nat) (ys : List Int) (wx : World) : Prop where
  s : RS w0 X TB t vb wx
  o1 : wx.ownsRow w0.heap.size 35 3 v1 n1 (shT.flat xs)
  o2 : wx.ownsRow w0.heap.size 3 1 v2 n2 (shI.flat ys)
  tn : v1.ownBlock ≠ some TB
structure LpA (w0 : World) (X : Nat) (v1 : Value) (n1 : Nat) (xs : List ThT) (v2 : Value) (n2 : Nat) (ys : List Int) (wx : World) : Prop where
  b : Below w0.heap.size w0 wx
  h0 : w0.heap.size ≤ X
  x : wx.heap[X]? = some (.cells #[v2] 29 (0, 0))
  o1 : wx.ownsRow w0.heap.size 35 3 v1 n1 (shT.flat xs)
  o2 : wx.ownsRow w0.heap.size 3 1 v2 n2 (shI.flat ys)
theorem own_row {w : World} {base e size n : Nat} {v : Value} {xs : List Value} (h : w.ownsRow base e size v n xs) {g : Nat} (hg : v.ownBlock = some g) : ∃ cs, w.heap[g]? = some (.cells cs e (0, 0)) := by
  obtain ⟨_, h2⟩ := h
  rcases h2 with ⟨rfl, _⟩ | ⟨g', cap, cur, hv, _, hh, _⟩
  · cases hg
  · rw [hv] at hg
    simp only [Value.ownBlock, Option.some.injEq] at hg
    subst hg
    exact ⟨cur, hh⟩
theorem own_two {w : World} {base base' e e' size size' n n' : Nat} {v v' : Value} {xs xs' : List Value} (h : w.ownsRow base e size v n xs) (h' : w.ownsRow base' e' size' v' n' xs') (he : ¬ e = e') {g : Nat} (hg : v.ownBlock = some g) : v'.ownBlock ≠ some g := fun q => by
  obtain ⟨cs, hc⟩ := own_row h hg
  exact own_ne h' hc he g q rfl
section
variable {w0 wx wy : World} {X TB : Nat} {t : ThT} {vb v1 v2 v1' v2' : Value} {n1 n2 n1' n2' : Nat} {xs xs' : List ThT} {ys ys' : List Int}
theorem RS.all (h : RS w0 X TB t vb wx) : RS w0 X TB t vb wx ∧ wx.cell? ⟨X, 0, none⟩ = some vb ∧ wx.cell? ⟨TB, 0, none⟩ = some (.int .i64 t.c) ∧ wx.cell? ⟨TB, 1, none⟩ = some (.int .i64 t.l) ∧ wx.cell? ⟨TB, 2, none⟩ = some (.int .i64 t.w) :=
  ⟨h, one_at h.x, trio_at h.t⟩
theorem RS.step (h : RS w0 X TB t vb wx) (hb : Below wx.heap.size wx wy) : RS w0 X TB t vb wy := ⟨pstep h.b hb, heap_step h.x hb, heap_step h.t hb⟩
theorem RS.drew (h : RS w0 X TB t vb wx) : RS w0 X TB t vb wx.drew := ⟨h.b.drew, h.x, h.t⟩
theorem RS.alloc (h : RS w0 X TB t vb wx) (o : Obj) : RS w0 X TB t vb (wx.alloc o) := h.step (below_alloc _ _)
theorem RA.step (h : RA w0 X TB t vb v1 n1 xs v2 n2 ys wx) (hb : Below wx.heap.size wx wy) : RA w0 X TB t vb v1 n1 xs v2 n2 ys wy := ⟨h.s.step hb, own_step h.o1 hb, own_step h.o2 hb, h.tn⟩
theorem RA.drew (h : RA w0 X TB t vb v1 n1 xs v2 n2 ys wx) : RA w0 X TB t vb v1 n1 xs v2 n2 ys wx.drew := h.step ((Below.refl _ _).drew)
theorem RA.alloc (h : RA w0 X TB t vb v1 n1 xs v2 n2 ys wx) (o : Obj) : RA w0 X TB t vb v1 n1 xs v2 n2 ys (wx.alloc o) := h.step (below_alloc _ _)
theorem RA.grow1 (h : RA w0 X TB t vb v1 n1 xs v2 n2 ys wx) (hg : wx.grownBy wy v1.ownBlock) (ho : wy.ownsRow w0.heap.size 35 3 v1' n1' (shT.flat xs')) (hn : ∀ g, v1'.ownBlock = some g → v1.ownBlock = some g ∨ g = wx.heap.size) : RA w0 X TB t vb v1' n1' xs' v2 n2 ys wy := by
  refine ⟨⟨h.s.b.grown hg h.s.b.size (fun g e => (own_lt h.o1 e).1), (hg.block X (heap_lt h.s.x) (fun e => own_ne h.o1 h.s.x (by decide) X e.symm rfl)).trans h.s.x, (hg.block TB (heap_lt h.s.t) (fun e => h.tn e.symm)).trans h.s.t⟩, ho, own_heap h.o2 fun g o hgo hoo => (hg.block g (heap_lt hoo) fun e => own_two h.o2 h.o1 (by decide) hgo e.symm).trans hoo, fun q => ?_⟩
  rcases hn TB q with q | q
  · exact h.tn q
  · have := heap_lt h.s.t; omega
theorem RA.grow2 (h : RA w0 X TB t vb v1 n1 xs v2 n2 ys wx) (hg : wx.grownBy wy v2.ownBlock) (ho : wy.ownsRow w0.heap.size 3 1 v2' n2' (shI.flat ys')) : RA w0 X TB t vb v1 n1 xs v2' n2' ys' wy :=
  ⟨⟨h.s.b.grown hg h.s.b.size (fun g e => (own_lt h.o2 e).1), (hg.block X (heap_lt h.s.x) (fun e => own_ne h.o2 h.s.x (by decide) X e.symm rfl)).trans h.s.x, (hg.block TB (heap_lt h.s.t) (fun e => own_ne h.o2 h.s.t (by decide) TB e.symm rfl)).trans h.s.t⟩, own_heap h.o1 fun g o hgo hoo => (hg.block g (heap_lt hoo) fun e => own_two h.o1 h.o2 (by decide) hgo e.symm).trans hoo, ho, h.tn⟩
theorem RA.put (h : RA w0 X TB t vb v1 n1 xs v2 n2 ys wx) (h0 : w0.heap.size ≤ X) : LpA w0 X v1 n1 xs v2 n2 ys (wx.setCell ⟨X, 0, none⟩ v2) :=
  ⟨h.s.b.setCell (p := ⟨X, 0, none⟩) h0 _, h0, heap_setCell_same wx X 0 _ _ _ h.s.x, own_set h.o1 (own_ne h.o1 h.s.x (by decide)) _, own_set h.o2 (own_ne h.o2 h.s.x (by decide)) _⟩
theorem LpA.step (h : LpA w0 X v1 n1 xs v2 n2 ys wx) (hb : Below wx.heap.size wx wy) : LpA w0 X v1 n1 xs v2 n2 ys wy := ⟨pstep h.b hb, h.h0, heap_step h.x hb, own_step h.o1 hb, own_step h.o2 hb⟩
theorem LpA.ra (h : LpA w0 X v1 n1 xs v2 n2 ys wx) (t : ThT) : RA w0 X wx.heap.size t v2 v1 n1 xs v2 n2 ys (wx.alloc (thC t)) :=
  ⟨⟨(h.step (below_alloc wx (thC t))).b, heap_step h.x (below_alloc _ _), heap_alloc_new wx (thC t)⟩, own_step h.o1 (below_alloc _ _), own_step h.o2 (below_alloc _ _), fun q => by have := (own_lt h.o1 q).2; omega⟩
/-- The thread's copy alone: what the region's other loads read. -/
theorem RS.rt (h : RS w0 X TB t vb wx) : RT TB t wx := ⟨h.t⟩
theorem RT.all (h : RT TB t wx) : RT TB t wx ∧ wx.cell? ⟨TB, 0, none⟩ = some (.int .i64 t.c) ∧ wx.cell? ⟨TB, 1, none⟩ = some (.int .i64 t.l) ∧ wx.cell? ⟨TB, 2, none⟩ = some (.int .i64 t.w) := ⟨h, trio_at h.t⟩
theorem RT.alloc (h : RT TB t wx) (o : Obj) : RT TB t (wx.alloc o) := ⟨heap_step h.t (below_alloc _ _)⟩
theorem RA.rts (h : RA w0 X TB t vb v1 n1 xs v2 n2 ys wx) {u : Value} : RT TB t (wx.setCell ⟨X, 0, none⟩ u) := ⟨(Below.heap_setCell wx ⟨X, 0, none⟩ u TB (fun e => by
  have h1 := h.s.x
  have h2 := h.s.t
  simp only at e
  rw [← e, h2] at h1
  simp at h1)).trans h.s.t⟩
end
theorem th_one (W : World) (t : ThT) (cap : Nat) : shT.At (W.alloc (thC t)) (some ⟨W.heap.size, 0, none⟩) cap [t] :=
  Shape.At.lit (S := shT) [t] (heap_alloc_new W _)
theorem in_one (W : World) (k cap : Nat) : shI.At (W.alloc (inC k)) (some ⟨W.heap.size, 0, none⟩) cap [((k : Nat) : Int)] := int_one W (k : Nat) cap
theorem th_row (W : World) (t : ThT) : (W.alloc (thC t)).heap[W.heap.size]? = some (.cells #[.int .i64 t.c, .int .i64 t.l, .int .i64 t.w] 35 (0, 0)) := heap_alloc_new W _
theorem in_row (W : World) (k : Nat) : (W.alloc (inC k)).heap[W.heap.size]? = some (.cells #[.int .i64 (k : Nat)] 3 (0, 0)) := heap_alloc_new W _
theorem th_at {W : World} {t : ThT} {b : Nat} (h : W.heap[b]? = some (.cells #[.int .i64 t.c, .int .i64 t.l, .int .i64 t.w] 35 (0, 0))) (cap : Nat) : shT.At W (some ⟨b, 0, none⟩) cap [t] := Shape.At.lit (S := shT) [t] h
theorem in_at {W : World} {k b : Nat} (h : W.heap[b]? = some (.cells #[.int .i64 (k : Nat)] 3 (0, 0))) (cap : Nat) : shI.At W (some ⟨b, 0, none⟩) cap [((k : Nat) : Int)] := Shape.At.lit (S := shI) [((k : Nat) : Int)] h
end Go.Proofs.Ytningajaimbncaa
